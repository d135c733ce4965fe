/-
  Texts that belong together, joined: Mem By ByI FlM FlA FlB FlC FlD FlE FlF FlQ.
-/
import Derived.WalkKit
import Derived.Maps.OwnSet
import Derived.Maps.RangeWalk
import Derived.Laws.Rows
import Derived.OneCell
import Derived.Lib.Hide
import Derived.Deep.Quiet
import Derived.Test.YtcdhakfmljjaoaaGreatDoorProg
import Derived.Laws.CopyOwn
import Derived.Laws.MakeOwn
import Derived.Laws.OwnMore
import Derived.Laws.BitsLemmas
import Derived.Laws.AppendOwnNone
import Derived.Deep.LoopGhost
import Derived.Deep.QuietTactic
import Derived.BigQuiet
import Derived.Deep.Slices
import Derived.ChangeArms
import Derived.ChangeSlices
import Derived.OpenShut
import Derived.SizedLaws
import Derived.Deep.AppendLies
import Derived.Deep.RegionLaw
import Derived.StillTailTactics

/-
  Memory: what has turned between two worlds, but for some blocks.
-/







namespace Go.Proofs.YtcdhakfmljjaoaaGreatDoor
set_option maxRecDepth 100000
open Go.RowKit Go.Maps

/-- From w to w' nothing that was there has turned but for the blocks in S. -/
structure Fr (S : Nat → Prop) (w w' : World) : Prop where
  os : w'.os = w.os
  tape : w'.tape = w.tape
  output : w'.output = w.output
  size : w.heap.size ≤ w'.heap.size
  block : ∀ i, i < w.heap.size → ¬ S i → w'.heap[i]? = w.heap[i]?

theorem Fr.refl (S : Nat → Prop) (w : World) : Fr S w w := ⟨rfl, rfl, rfl, Nat.le_refl _, fun _ _ _ => rfl⟩

theorem Fr.trans {S S' : Nat → Prop} {a b c : World} (h : Fr S a b) (k : Fr S' b c) (hS : ∀ i, i < a.heap.size → S' i → S i) : Fr S a c :=
  ⟨k.os.trans h.os, k.tape.trans h.tape, k.output.trans h.output, Nat.le_trans h.size k.size, fun i hi hn =>
    (k.block i (Nat.lt_of_lt_of_le hi h.size) (fun e => hn (hS i hi e))).trans (h.block i hi hn)⟩

theorem Fr.mono {S S' : Nat → Prop} {a b : World} (h : Fr S' a b) (hS : ∀ i, i < a.heap.size → S' i → S i) : Fr S a b :=
  ⟨h.os, h.tape, h.output, h.size, fun i hi hn => h.block i hi (fun e => hn (hS i hi e))⟩

theorem Fr.alloc {S : Nat → Prop} {a w : World} (h : Fr S a w) (o : Obj) : Fr S a (w.alloc o) :=
  h.trans (S' := fun _ => False) ⟨rfl, rfl, rfl, by simp, fun k hk _ => Below.heap_alloc _ _ _ hk⟩ (fun _ _ e => e.elim)

theorem Fr.drew {S : Nat → Prop} {a w : World} (h : Fr S a w) : Fr S a w.drew := ⟨h.os, h.tape, h.output, h.size, h.block⟩

theorem Fr.drewN {S : Nat → Prop} {a w : World} (h : Fr S a w) (n : Nat) : Fr S a (w.drewN n) := ⟨h.os, h.tape, h.output, h.size, h.block⟩

theorem Fr.setCell {S : Nat → Prop} {a w : World} (h : Fr S a w) {p : Addr} (hp : S p.block ∨ a.heap.size ≤ p.block) (u : Value) : Fr S a (w.setCell p u) :=
  ⟨h.os, h.tape, h.output, by simpa [World.setCell] using h.size, fun i hi hn => by
    have hne : i ≠ p.block := by
      intro e
      rcases hp with hp | hp
      · exact hn (e ▸ hp)
      · omega
    exact (Below.heap_setCell _ _ _ _ hne).trans (h.block i hi hn)⟩

theorem Fr.grown {S : Nat → Prop} {a w w' : World} {row : Option Nat} (h : Fr S a w) (hg : w.grownBy w' row) (hr : ∀ k, row = some k → S k ∨ a.heap.size ≤ k) : Fr S a w' :=
  ⟨hg.os.trans h.os, hg.tape.trans h.tape, hg.output.trans h.output, Nat.le_trans h.size hg.size, fun i hi hn =>
    (hg.block i (Nat.lt_of_lt_of_le hi h.size) (fun e => by
      rcases hr i e.symm with h1 | h1
      · exact hn h1
      · omega)).trans (h.block i hi hn)⟩

theorem Fr.ofBelow {S : Nat → Prop} {w w' : World} {B : Nat} (h : Below B w w') (hB : ∀ i, i < w.heap.size → ¬ S i → i < B) : Fr S w w' :=
  ⟨h.os, h.tape, h.output, h.size, fun i hi hn => h.block i (hB i hi hn)⟩

theorem Fr.below {S : Nat → Prop} {w w' : World} (h : Fr S w w') {B : Nat} (hB : B ≤ w.heap.size) (hS : ∀ i, i < B → ¬ S i) : Below B w w' :=
  ⟨h.os, h.tape, h.output, h.size, fun i hi => h.block i (Nat.lt_of_lt_of_le hi hB) (hS i hi)⟩

theorem Fr.ofTurned {S : Nat → Prop} {a w w' : World} {b : Nat} (h : Fr S a w) (ht : w.mapTurned w' b) (hb : S b ∨ a.heap.size ≤ b) : Fr S a w' :=
  h.grown ht.grown (fun k e => by cases e; exact hb)

theorem Fr.ownsMap {S : Nat → Prop} {H : Type} {P : Program} {k : TypeId} {R : Value → Option (DataW H × List MemPlace)} {w w' : World} {b n : Nat} {D : DataW H} (h : Fr S w w') (hm : w.ownsMap P k R b n D) (hb : ¬ S b) : w'.ownsMap P k R b n D := by
  have hlt := hm.lt
  obtain ⟨es, clock, h1, F, hs, hD⟩ := hm
  exact ⟨es, clock, (h.block b hlt hb).trans h1, F, hs, hD⟩

/-- A block of cells that may be written, and what its cells hold. -/
theorem cellAt {w : World} {b : Nat} {cs : Array Value} {t : TypeId} (h : w.heap[b]? = some (.cells cs t (0, 0))) (j : Nat) : w.cell? ⟨b, j, none⟩ = cs[j]? := by simp [World.cell?, h]
theorem freeAt {w : World} {b : Nat} {cs : Array Value} {t : TypeId} (h : w.heap[b]? = some (.cells cs t (0, 0))) (j : Nat) : w.frozen? ⟨b, j, none⟩ = false := by simp [World.frozen?, h]

theorem heap_alloc_keep {w : World} {b : Nat} {o o' : Obj} (h : w.heap[b]? = some o) : (w.alloc o').heap[b]? = some o := by
  have hlt : b < w.heap.size := (Array.getElem?_eq_some_iff.1 h).1
  rw [Below.heap_alloc _ _ _ hlt]
  exact h

end Go.Proofs.YtcdhakfmljjaoaaGreatDoor

/-
  Slices of bytes: what is read out of them, the helpers Bytes, SameBytes, Among.
-/














namespace Go.Proofs.YtcdhakfmljjaoaaGreatDoor
set_option maxRecDepth 100000
open Go.RowKit Go.Maps Go.ChangeShapes Go.WideShapes Go.Deep

/-- Nothing has turned but the draws. -/
def Calm (w w' : World) : Prop := ∃ n, w' = w.drewN n
theorem Calm.refl (w : World) : Calm w w := ⟨0, rfl⟩
theorem Calm.trans {a b c : World} (h : Calm a b) (k : Calm b c) : Calm a c := by
  obtain ⟨n, rfl⟩ := h
  obtain ⟨m, rfl⟩ := k
  exact ⟨n + m, by simp [World.drewN, Nat.add_assoc]⟩
theorem Calm.fr {a b : World} (h : Calm a b) : Fr (fun _ => False) a b := by
  obtain ⟨n, rfl⟩ := h
  exact (Fr.refl _ a).drewN n
theorem Calm.cell {a b : World} (h : Calm a b) (x : Addr) : b.cell? x = a.cell? x := by
  obtain ⟨n, rfl⟩ := h
  rfl
theorem Calm.size {a b : World} (h : Calm a b) : b.heap.size = a.heap.size := by
  obtain ⟨n, rfl⟩ := h
  rfl

theorem cellsU : Tryz.prog.cellsOf 5 = 1 := by kernel_rfl
theorem laidOut : laidOutB Tryz.prog = true := by kernel_rfl
theorem bytesU : Tryz.prog.bytesOf 5 = 1 := by kernel_rfl
theorem infoB : (Tryz.prog.info? 5).map (fun i => (i.zero, i.size, i.bytes)) = some (some (.int .u8 0), 1, 1) := by kernel_rfl

/-- Bytes as cells. -/
def bs (l : List UInt8) : List Value := l.map fun b => .int .u8 (b.toNat : Int)
theorem bs_length (l : List UInt8) : (bs l).length = l.length := by unfold bs; rw [List.length_map]
theorem bs_append (a b : List UInt8) : bs (a ++ b) = bs a ++ bs b := by unfold bs; rw [List.map_append]
theorem bs_get (l : List UInt8) (j : Nat) : (bs l)[j]? = l[j]?.map fun b => .int .u8 (b.toNat : Int) := by unfold bs; rw [List.getElem?_map]
theorem bs_one (l : List UInt8) : ∀ u ∈ bs l, u.oneCell' = true := by
  unfold bs
  intro u hu
  obtain ⟨b, _, rfl⟩ := List.mem_map.1 hu
  rfl
theorem bs_set (l : List UInt8) (k : Nat) (c : UInt8) : (bs l).set k (.int .u8 (c.toNat : Int)) = bs (l.set k c) := by unfold bs; rw [List.map_set]

theorem bits_xor8 (a b : UInt8) : bits .xor .u8 (a.toNat : Int) (b.toNat : Int) = ((a ^^^ b).toNat : Int) := by
  have ha := a.toNat_lt
  have hb := b.toNat_lt
  have h1 : (BitVec.ofInt 8 (a.toNat : Int)).toNat = a.toNat := by rw [BitVec.ofInt_natCast, BitVec.toNat_ofNat]; exact Nat.mod_eq_of_lt (by omega)
  have h2 : (BitVec.ofInt 8 (b.toNat : Int)).toNat = b.toNat := by rw [BitVec.ofInt_natCast, BitVec.toNat_ofNat]; exact Nat.mod_eq_of_lt (by omega)
  show IntKind.u8.wrap ((BitVec.ofInt 8 (a.toNat : Int) ^^^ BitVec.ofInt 8 (b.toNat : Int)).toNat : Int) = _
  rw [BitVec.toNat_xor, h1, h2, UInt8.toNat_xor, IntKind.wrap_u8]
  have : a.toNat ^^^ b.toNat < 2 ^ 8 := Nat.xor_lt_two_pow (by omega) (by omega)
  omega
/-- A slice at A reads as these bytes; it lies below block B. -/
def Rd (w : World) (B : Nat) (A : Option Addr) (l : List UInt8) : Prop :=
  l ≠ [] → ∃ blk off, A = some ⟨blk, off, none⟩ ∧ blk < B ∧ ∀ j x, l[j]? = some x → w.cell? ⟨blk, off + j, none⟩ = some (.int .u8 (x.toNat : Int))

theorem Rd.nil (w : World) (B : Nat) (A : Option Addr) : Rd w B A [] := fun h => absurd rfl h
theorem Rd.kept {w w' : World} {B : Nat} {A : Option Addr} {l : List UInt8} (h : Rd w B A l) {S : Nat → Prop} (hF : Fr S w w') (hB : B ≤ w.heap.size) (hS : ∀ i, i < B → ¬ S i) : Rd w' B A l := fun hne => by
  obtain ⟨blk, off, hp, hb, hc⟩ := h hne
  exact ⟨blk, off, hp, hb, fun j x hj => (World.cell?_of_block (w := w) (w' := w') (hF.block blk (by omega) (hS blk hb))).trans (hc j x hj)⟩
theorem Rd.calm {w w' : World} {B : Nat} {A : Option Addr} {l : List UInt8} (h : Rd w B A l) (hC : Calm w w') : Rd w' B A l := fun hne => by
  obtain ⟨blk, off, hp, hb, hc⟩ := h hne
  exact ⟨blk, off, hp, hb, fun j x hj => (hC.cell _).trans (hc j x hj)⟩
theorem Rd.still {w w' : World} {B : Nat} {A : Option Addr} {l : List UInt8} (h : Rd w B A l) (hF : Fr (fun _ => False) w w') (hB : B ≤ w.heap.size) : Rd w' B A l := h.kept hF hB (fun _ _ e => e)
theorem Rd.more {w : World} {B B' : Nat} {A : Option Addr} {l : List UInt8} (h : Rd w B A l) (hB : B ≤ B') : Rd w B' A l := fun hne => by
  obtain ⟨blk, off, hp, hb, hc⟩ := h hne
  exact ⟨blk, off, hp, by omega, hc⟩
theorem Rd.at_ {w : World} {B : Nat} {A : Option Addr} {l : List UInt8} (h : Rd w B A l) {k : Nat} (hk : k < l.length) :
    ∃ blk off, A = some ⟨blk, off, none⟩ ∧ blk < B ∧ w.cell? ⟨blk, off + k, none⟩ = some (.int .u8 (l[k].toNat : Int)) := by
  obtain ⟨blk, off, hp, hb, hc⟩ := h (by intro e; subst e; simp at hk)
  exact ⟨blk, off, hp, hb, hc k _ (List.getElem?_eq_getElem hk)⟩
theorem Rd.take {w : World} {B : Nat} {A : Option Addr} {l : List UInt8} (h : Rd w B A l) (k : Nat) : Rd w B A (l.take k) := fun hne => by
  obtain ⟨blk, off, hp, hb, hc⟩ := h (by intro e; subst e; exact hne (by simp))
  refine ⟨blk, off, hp, hb, fun j x hj => hc j x ?_⟩
  rw [List.getElem?_take] at hj
  split at hj
  · exact hj
  · cases hj
theorem add_plain (b o j : Nat) : (⟨b, o, none⟩ : Addr).add j = ⟨b, o + j, none⟩ := by unfold Addr.add; split <;> simp_all
theorem Rd.drop {w : World} {B : Nat} {A : Option Addr} {l : List UInt8} (h : Rd w B A l) {k cap : Nat} (hc : l.length ≤ cap) : Rd w B (if cap = k then A else A.map (·.add k)) (l.drop k) := fun hne => by
  have hk : k < l.length := by
    apply Decidable.byContradiction
    intro hn
    exact hne (List.drop_eq_nil_of_le (by omega))
  obtain ⟨blk, off, rfl, hb, hcell⟩ := h (by intro e; subst e; simp at hk)
  rw [if_neg (by omega)]
  refine ⟨blk, off + k, by simp [add_plain], hb, fun j x hj => ?_⟩
  rw [List.getElem?_drop] at hj
  have := hcell (k + j) x hj
  rwa [← Nat.add_assoc] at this
theorem add_zero (a : Addr) : a.add 0 = a := if_pos rfl
set_option maxRecDepth 100000 in
/-- b[:k], b[k:]. -/
theorem cut_low (w : World) (A : Option Addr) (n c k : Nat) (hk : k ≤ c) :
    (Instr.slice 22 (.slice A n c) none (some (.int .i64 (k : Int))) none).run Tryz.prog w = .ok (.slice A k c) w := by
  rw [run_slice_h w 22 A n c Tryz.underlying22 .i64 k (by omega) (by omega)]
  have hs : (sizeOf (Tryz.prog.elem 22)).run Tryz.prog w = .ok 1 w := by kernel_rfl
  rw [hs]
  simp only [Result.andThen, sliced, Int.toNat_natCast, Nat.zero_mul, Nat.sub_zero]
  have : A.map (·.add 0) = A := by cases A <;> simp [add_zero]
  rw [this, ite_self]
set_option maxRecDepth 100000 in
theorem cut_high (w : World) (B : Nat) (A : Option Addr) (l : List UInt8) (n c k : Nat) (hr : Rd w B A l) (hn : l.length = n) (hc : n ≤ c) (hk : k ≤ n) :
    ∃ A', (Instr.slice 22 (.slice A n c) (some (.int .i64 (k : Int))) none none).run Tryz.prog w = .ok (.slice A' (n - k) (c - k)) w ∧ Rd w B A' (l.drop k) := by
  refine ⟨if c = k then A else A.map (·.add k), ?_, hr.drop (by omega)⟩
  rw [run_slice_l w 22 A n c Tryz.underlying22 .i64 k (by omega) (by omega)]
  have hs : (sizeOf (Tryz.prog.elem 22)).run Tryz.prog w = .ok 1 w := by kernel_rfl
  rw [hs]
  simp only [Result.andThen, sliced, Int.toNat_natCast, Nat.mul_one]
theorem Rd.src {w : World} {B : Nat} {ad : Addr} {l : List UInt8} (h : Rd w B (some ad) l) : ∀ j u, (bs l)[j]? = some u → w.cell? (ad.add j) = some u := by
  intro j u hu
  rw [bs_get] at hu
  obtain ⟨b, hb, rfl⟩ := Option.map_eq_some_iff.1 hu
  obtain ⟨blk, off, hp, _, hc⟩ := h (by intro e; subst e; simp at hb)
  cases hp
  rw [add_plain]
  exact hc j b hb

/-- A slice at A reads as these numbers. -/
def RdI (w : World) (B : Nat) (A : Option Addr) (l : List Int) : Prop :=
  (l ≠ [] → ∃ blk off, A = some ⟨blk, off, none⟩ ∧ blk < B ∧ ∀ j x, l[j]? = some x → w.cell? ⟨blk, off + j, none⟩ = some (.int .i64 x)) ∧ ∀ x ∈ l, -9223372036854775808 ≤ x ∧ x ≤ 9223372036854775807
theorem RdI.nil (w : World) (B : Nat) (A : Option Addr) : RdI w B A [] := ⟨fun h => absurd rfl h, by simp⟩
theorem RdI.kept {w w' : World} {B : Nat} {A : Option Addr} {l : List Int} (h : RdI w B A l) {S : Nat → Prop} (hF : Fr S w w') (hB : B ≤ w.heap.size) (hS : ∀ i, i < B → ¬ S i) : RdI w' B A l := ⟨fun hne => by
  obtain ⟨blk, off, hp, hb, hc⟩ := h.1 hne
  exact ⟨blk, off, hp, hb, fun j x hj => (World.cell?_of_block (w := w) (w' := w') (hF.block blk (by omega) (hS blk hb))).trans (hc j x hj)⟩, h.2⟩
theorem RdI.still {w w' : World} {B : Nat} {A : Option Addr} {l : List Int} (h : RdI w B A l) (hF : Fr (fun _ => False) w w') (hB : B ≤ w.heap.size) : RdI w' B A l := h.kept hF hB (fun _ _ e => e)
theorem RdI.calm {w w' : World} {B : Nat} {A : Option Addr} {l : List Int} (h : RdI w B A l) (hC : Calm w w') : RdI w' B A l := ⟨fun hne => by
  obtain ⟨blk, off, hp, hb, hc⟩ := h.1 hne
  exact ⟨blk, off, hp, hb, fun j x hj => (hC.cell _).trans (hc j x hj)⟩, h.2⟩
theorem RdI.at_ {w : World} {B : Nat} {A : Option Addr} {l : List Int} (h : RdI w B A l) {k : Nat} (hk : k < l.length) :
    ∃ blk off, A = some ⟨blk, off, none⟩ ∧ blk < B ∧ w.cell? ⟨blk, off + k, none⟩ = some (.int .i64 l[k]) ∧ -9223372036854775808 ≤ l[k] ∧ l[k] ≤ 9223372036854775807 := by
  obtain ⟨blk, off, hp, hb, hc⟩ := h.1 (by intro e; subst e; simp at hk)
  exact ⟨blk, off, hp, hb, hc k _ (List.getElem?_eq_getElem hk), h.2 _ (List.getElem_mem hk)⟩

/-- A slice of the call's own that holds these bytes. -/
def Own (w : World) (base : Nat) (v : Value) (l : List UInt8) : Prop := w.ownsRow base 5 1 v l.length (bs l)
theorem Own.kept {w w' : World} {base : Nat} {v : Value} {l : List UInt8} (h : Own w base v l) (hF : Fr (fun _ => False) w w') : Own w' base v l := by
  obtain ⟨h1, h2⟩ := h
  refine ⟨h1, ?_⟩
  rcases h2 with h2 | ⟨g, cap, cur, hv, hg, hh, r⟩
  · exact Or.inl h2
  · exact Or.inr ⟨g, cap, cur, hv, hg, (hF.block g (Array.getElem?_eq_some_iff.1 hh).1 id).trans hh, r⟩
theorem Own.rd {w : World} {base cap : Nat} {A : Option Addr} {l : List UInt8} (h : Own w base (.slice A l.length cap) l) : Rd w w.heap.size A l := fun hne => by
  obtain ⟨_, h2⟩ := h
  rcases h2 with ⟨_, h0⟩ | ⟨g, cap', cur, hv, hg, hh, _, _, _, ht⟩
  · exact absurd (List.eq_nil_of_length_eq_zero h0) hne
  · cases hv
    refine ⟨g, 0, rfl, (Array.getElem?_eq_some_iff.1 hh).1, fun j x hj => ?_⟩
    rw [cellAt hh, Nat.zero_add, ← Array.getElem?_toList]
    have h1 : (cur.toList.take (l.length * 1))[j]? = some (.int .u8 (x.toNat : Int)) := by rw [ht, bs_get, hj]; rfl
    rw [List.getElem?_take] at h1
    split at h1
    · exact h1
    · cases h1
/-- Where an own slice lies, if it holds a byte. -/
theorem Own.at_ {w : World} {base cap : Nat} {A : Option Addr} {l : List UInt8} (h : Own w base (.slice A l.length cap) l) {k : Nat} (hk : k < l.length) :
    ∃ g, A = some ⟨g, 0, none⟩ ∧ base ≤ g ∧ g < w.heap.size ∧ w.cell? ⟨g, k, none⟩ = some (.int .u8 (l[k].toNat : Int)) ∧ w.frozen? ⟨g, k, none⟩ = false ∧
      ∀ c : UInt8, Own (w.setCell ⟨g, k, none⟩ (.int .u8 (c.toNat : Int))) base (.slice A (l.set k c).length cap) (l.set k c) := by
  obtain ⟨h1, h2⟩ := id h
  rcases h2 with ⟨_, h0⟩ | ⟨g, cap', cur, hv, hg, hh, hn, hm, hs, ht⟩
  · omega
  · cases hv
    have hcell := (h.rd.at_ hk)
    obtain ⟨blk, off, e, _, hc⟩ := hcell
    cases e
    rw [Nat.zero_add] at hc
    refine ⟨g, rfl, hg, (Array.getElem?_eq_some_iff.1 hh).1, hc, freeAt hh k, fun c => ⟨by rw [bs_length]; omega, Or.inr ⟨g, cap, cur.setIfInBounds k (.int .u8 (c.toNat : Int)), rfl, hg, ?_, ?_, hm, ?_, ?_⟩⟩⟩
    · exact heap_setCell_same _ _ _ _ _ _ hh
    · rw [List.length_set]; exact hn
    · rw [Array.size_setIfInBounds]; exact hs
    · rw [Array.toList_setIfInBounds, List.length_set, List.take_set, ht, bs_set]

/-- A slice of noughts that make lays. -/
def zb (n : Nat) : Array Value := (bs (List.replicate n 0)).toArray
theorem run_make_bytes (n : Nat) (h : n ≤ 140737488351232) (w : World) :
    (Instr.makeSlice 22 (.int .i64 (n : Int)) (.int .i64 (n : Int))).run Tryz.prog w = .ok (.slice (some ⟨w.heap.size, 0, none⟩) n n) (w.alloc (.cells (zb n) 5)) := by
  obtain ⟨i0, hi, hz0, hz1, hz2⟩ := info_parts infoB
  have hr := run_make (P := Tryz.prog) w 22 5 i0 (.int .u8 0) Tryz.underlying22 hi hz0 .i64 .i64 n n (by omega) (by omega) (by rw [hz2]; omega) (by omega)
  rw [hr, Int.toNat_natCast, hz1, Nat.mul_one]
  have : madeCells (Value.int .u8 0).cells n = zb n := by
    apply Array.toList_inj.1
    unfold zb bs
    rw [List.map_replicate]
    exact toList_madeCells_one _ _
  rw [this]
theorem own_made (w : World) (l : List UInt8) (h : l.length ≤ maxLen) : Own (w.alloc (.cells (bs l).toArray 5)) w.heap.size (.slice (some ⟨w.heap.size, 0, none⟩) l.length l.length) l :=
  ⟨by rw [bs_length, Nat.mul_one], Or.inr ⟨w.heap.size, l.length, (bs l).toArray, rfl, Nat.le_refl _, heap_alloc_new _ _, Nat.le_refl _, h, by simp [bs_length], by rw [Nat.mul_one]; exact List.take_of_length_le (by simp [bs_length])⟩⟩
theorem own_zb (w : World) (n : Nat) (h : n ≤ 140737488351232) : Own (w.alloc (.cells (zb n) 5)) w.heap.size (.slice (some ⟨w.heap.size, 0, none⟩) (List.replicate n (0 : UInt8)).length n) (List.replicate n 0) := by
  have := own_made w (List.replicate n 0) (by rw [List.length_replicate]; unfold maxLen; omega)
  rw [List.length_replicate] at this ⊢
  exact this

/-- A new slice of bytes. -/
def NewB (w : World) (l : List UInt8) (e : Ending) (w' : World) : Prop :=
  ∃ A cap, e = .returned (.slice A l.length cap) ∧ Own w' w.heap.size (.slice A l.length cap) l ∧ Fr (fun _ => False) w w'

theorem NewB.of_own {w w' : World} {l : List UInt8} {v : Value} {n : Nat} {xs : List Value} (hn : n = l.length) (hx : xs = bs l) (hnn : v ≠ .slice none 0 0) (h : w'.ownsRow w.heap.size 5 1 v n xs) (hF : Fr (fun _ => False) w w') : NewB w l (.returned v) w' := by
  subst hn
  subst hx
  obtain ⟨h1, h2⟩ := id h
  rcases h2 with ⟨e, _⟩ | ⟨g, cap, cur, rfl, hg, hh, r⟩
  · exact absurd e hnn
  · exact ⟨_, cap, rfl, h, hF⟩

set_option maxHeartbeats 1000000 in
theorem bytes_any (w : World) (A : Option Addr) (cap : Nat) (l : List UInt8) (hr : Rd w w.heap.size A l) (hA : A = none → cap = 0) (hl : l.length ≤ 140737488351232) :
    Calls Tryz.prog 8 #[.slice A l.length cap] w fun e w' => NewB w l e w' := by
  obtain ⟨i0, hi, hz0, hz1, hz2⟩ := info_parts infoB
  have hO : (w.alloc (.cells #[] 5)).ownsRow w.heap.size 5 1 (.slice (some ⟨w.heap.size, 0, none⟩) 0 0) 0 [] := World.ownsRow_made w #[] 0 (Nat.le_refl _) (Nat.zero_le _) (by simp)
  have hF : Fr (fun _ => False) w (w.alloc (.cells #[] 5)) := (Fr.refl _ w).alloc _
  have HO := Lib.hid hO
  have HF := Lib.hid hF
  have HI := Lib.hid (⟨hi, hz0, hz1, hz2⟩ : _ ∧ _ ∧ _ ∧ _)
  clear hO hF hi hz0 hz1 hz2
  obtain ⟨n, hn⟩ : ∃ n, n = l.length := ⟨_, rfl⟩
  rw [← hn]
  have hn' : n ≤ 140737488351232 := by omega
  have HN := Lib.hid hn
  cases A with
  | none =>
    have h0 : l = [] := by
      apply Decidable.byContradiction
      intro hne
      obtain ⟨_, _, e, _⟩ := hr hne
      cases e
    obtain rfl : cap = 0 := hA rfl
    obtain rfl : n = 0 := by rw [hn, h0]; rfl
    have H0 := Lib.hid h0
    clear hr hA hl hn h0
    go_enter Tryz.func8, Tryz.ntmps8
    go_wp2_with (at_builtin; refine wpList_append_own_none rfl (.tmp 3) (.tmp 4) 22 rfl w.heap.size 5 i0 1 Tryz.underlying22 HI.out.1 _ 0 [] rfl HO.out rfl ?_)
    go_ret
    exact NewB.of_own (HN.out) (by rw [H0.out]; rfl) (by simp) HO.out HF.out
  | some ad =>
    have hr1 := hr.still HF.out (Nat.le_refl _)
    have HS := Lib.hid hr1.src
    clear hr hA hl hn hr1
    go_enter Tryz.func8, Tryz.ntmps8
    go_wp2_with (at_builtin; refine wpList_append_own _ rfl (.tmp 3) (.tmp 4) 22 rfl w.heap.size 5 i0 (.int .u8 0) 1 1 Tryz.underlying22 HI.out.1 HI.out.2.1 HI.out.2.2.1 HI.out.2.2.2 rfl (by omega) _ 0 [] rfl HO.out ad n cap (bs l) rfl ?c1 HS.out (bs_one l) ?c2 ?c3 ?c4 ?c5)
    case c1 => rw [bs_length, ← HN.out]; omega
    case c2 => unfold maxLen; omega
    case c3 => omega
    case c4 => simp
    case c5 =>
      intro v' w1 hown hgrow hnil
      have hfr := HF.out.grown hgrow (fun k hk => Or.inr (by simp [Value.ownBlock] at hk; omega))
      have HW := Lib.hid (⟨hown, hfr, hnil⟩ : _ ∧ _ ∧ _)
      clear hown hgrow hnil hfr
      go_wp2
      go_ret
      exact NewB.of_own HN.out rfl HW.out.2.2 HW.out.1 HW.out.2.1

theorem take_same_succ {l1 l2 : List UInt8} {k : Nat} (h : l1.take k = l2.take k) (h1 : k < l1.length) (h2 : k < l2.length) (e : l1[k] = l2[k]) : l1.take (k + 1) = l2.take (k + 1) := by
  rw [List.take_succ_eq_append_getElem h1, List.take_succ_eq_append_getElem h2, h, e]

set_option maxRecDepth 100000 in
set_option maxHeartbeats 1000000 in
theorem same_core (w : World) (A1 A2 : Option Addr) (B1 B2 c1 c2 : Nat) (l1 l2 : List UInt8) (hr1 : Rd w B1 A1 l1) (hr2 : Rd w B2 A2 l2) (hl : l1.length = l2.length) (hb : l1.length ≤ 140737488351232) :
    Calls Tryz.prog 11 #[.slice A1 l1.length c1, .slice A2 l2.length c2] w fun e w' => e = .returned (.bool (decide (l1 = l2))) ∧ Calm w w' := by
  obtain ⟨n, hn⟩ : ∃ n, n = l1.length := ⟨_, rfl⟩
  rw [← hl, ← hn]
  have hb' : n ≤ 140737488351232 := by omega
  have HR1 := Lib.hid hr1
  have HR2 := Lib.hid hr2
  have HN := Lib.hid hn
  have HL := Lib.hid hl
  clear hr1 hr2 hn hl hb
  go_enter Tryz.func11, Tryz.ntmps11
  go_wp2_with fail
  go_loopw [5] (fun i wr => ∃ k : Nat, k ≤ n ∧ i = .int .i64 k ∧ Hid (l1.take k = l2.take k ∧ Calm w wr)) (fun i _ => n - (intOf i).toNat)
  case atStart => exact ⟨0, Nat.zero_le _, rfl, (show _ ∧ _ from ⟨rfl, Calm.refl _⟩)⟩
  case round =>
    obtain ⟨k, hk, rfl, HC⟩ := hrel
    by_cases hlt : k < n
    · have hk1 : k < l1.length := by have := HN.out; omega
      have hk2 : k < l2.length := by have := HN.out; have := HL.out; omega
      obtain ⟨b1, o1, rfl, _, d1⟩ := (HR1.out.calm HC.out.2).at_ hk1
      obtain ⟨b2, o2, rfl, _, d2⟩ := (HR2.out.calm HC.out.2).at_ hk2
      by_cases he : l1[k] = l2[k]
      · have HE := Lib.hid (take_same_succ HC.out.1 hk1 hk2 he)
        rw [← he] at d2
        have hx := l1[k].toNat_lt
        obtain ⟨x, hxx⟩ : ∃ x : Nat, x = l1[k].toNat := ⟨_, rfl⟩
        rw [← hxx] at d1 d2
        have h0 : (0 : Int) ≤ k := by omega
        have h1 : (k : Int) < n := by omega
        clear he hk1 hk2 hxx hx
        go_wp2_with fail
        go_quiet (fail)
        go_wp2
        go_roundw
        case rel => exact ⟨k + 1, by omega, by go_num, (show _ ∧ _ from ⟨HE.out, HC.out.2.trans ⟨nq, rfl⟩⟩)⟩
        case measure => simp [intOf]; omega
      · have hd : decide (l1 = l2) = false := decide_eq_false (fun e => he (by subst e; rfl))
        have HD := Lib.hid hd
        have hne : ((l1[k].toNat : Int) != (l2[k].toNat : Int)) = true := by
          rw [bne_iff_ne]
          intro e
          exact he (UInt8.toNat_inj.1 (by omega))
        obtain ⟨x, hxx⟩ : ∃ x : Nat, x = l1[k].toNat := ⟨_, rfl⟩
        obtain ⟨y, hyy⟩ : ∃ y : Nat, y = l2[k].toNat := ⟨_, rfl⟩
        rw [← hxx] at d1 hne
        rw [← hyy] at d2 hne
        have h0 : (0 : Int) ≤ k := by omega
        have h1 : (k : Int) < n := by omega
        clear he hk1 hk2 hxx hyy hd
        go_wp2_with fail
        go_quiet (fail)
        go_wp2
        go_ret
        exact ⟨by rw [HD.out]; rfl, HC.out.2.trans ⟨nq, rfl⟩⟩
    · have hkn : k = n := by omega
      subst hkn
      have hd : decide (l1 = l2) = true := decide_eq_true (by
        have h := HC.out.1
        rw [List.take_of_length_le (by have := HN.out; omega), List.take_of_length_le (by have := HN.out; have := HL.out; omega)] at h
        exact h)
      have HD := Lib.hid hd
      clear hd
      go_wp2_with fail
      go_wp2
      go_ret
      exact ⟨by rw [HD.out]; rfl, HC.out.2⟩

set_option maxHeartbeats 400000 in
theorem same_len (w : World) (p1 p2 : Option Addr) (n1 n2 c1 c2 : Nat) (h : n1 ≠ n2) :
    Calls Tryz.prog 11 #[.slice p1 n1 c1, .slice p2 n2 c2] w fun e w' => e = .returned (.bool false) ∧ w = w' := by
  have hne : ((n1 : Int) != (n2 : Int)) = true := by rw [bne_iff_ne]; omega
  clear h
  go_enter Tryz.func11, Tryz.ntmps11
  go_wp2
  go_ret
  exact ⟨rfl, rfl⟩

theorem same_any (w : World) (A1 A2 : Option Addr) (B1 B2 c1 c2 : Nat) (l1 l2 : List UInt8) (hr1 : Rd w B1 A1 l1) (hr2 : Rd w B2 A2 l2) (hb : l1.length ≤ 140737488351232) :
    Calls Tryz.prog 11 #[.slice A1 l1.length c1, .slice A2 l2.length c2] w fun e w' => e = .returned (.bool (decide (l1 = l2))) ∧ Calm w w' := by
  by_cases h : l1.length = l2.length
  · exact same_core w A1 A2 B1 B2 c1 c2 l1 l2 hr1 hr2 h hb
  · refine (same_len w A1 A2 _ _ c1 c2 h).mono ?_
    rintro e w' ⟨rfl, rfl⟩
    exact ⟨by rw [decide_eq_false (fun e => h (by rw [e]))], Calm.refl _⟩

def amongZ (n m : Int) : Int := wrap64 ((IntKind.u64.wrap n).tmod m)
theorem wrap_u64_in (n : Int) : 0 ≤ IntKind.u64.wrap n ∧ IntKind.u64.wrap n < 18446744073709551616 := by
  have h : IntKind.u64.wrap n = n % 18446744073709551616 := by
    unfold IntKind.wrap
    simp only
    have hs : IntKind.u64.signed = false := rfl
    rw [hs]
    rfl
  omega
theorem amongZ_in {n m : Int} (h1 : 1 ≤ m) (h2 : m ≤ 9223372036854775807) : 0 ≤ amongZ n m ∧ amongZ n m < m := by
  unfold amongZ
  have h := wrap_u64_in n
  rw [Int.tmod_eq_emod_of_nonneg h.1]
  have h3 := Int.emod_nonneg (IntKind.u64.wrap n) (show m ≠ 0 by omega)
  have h4 := Int.emod_lt_of_pos (IntKind.u64.wrap n) (show 0 < m by omega)
  rw [IntWalk.wrap64_in _ ⟨by omega, by omega⟩]
  exact ⟨h3, h4⟩

set_option maxHeartbeats 400000 in
theorem among_any (w : World) (n m : Int) (h1 : 1 ≤ m) (h2 : m ≤ 9223372036854775807) :
    Calls Tryz.prog 16 #[.int .i64 n, .int .i64 m] w fun e w' => e = .returned (.int .i64 (amongZ n m)) ∧ w = w' := by
  go_enter Tryz.func16, Tryz.ntmps16
  go_wp2
  go_ret
  exact ⟨rfl, rfl⟩

/-- .. as a place. -/
theorem among_nat (w : World) (n : Int) (m : Nat) (h1 : 1 ≤ m) (h2 : m ≤ 9223372036854775807) :
    Calls Tryz.prog 16 #[.int .i64 n, .int .i64 (m : Int)] w fun e w' => ∃ k : Nat, k < m ∧ e = .returned (.int .i64 (k : Int)) ∧ w = w' := by
  refine (among_any w n m (by omega) (by omega)).mono ?_
  rintro e w' ⟨rfl, rfl⟩
  have h := amongZ_in (n := n) (m := m) (by omega) (by omega)
  exact ⟨(amongZ n m).toNat, by omega, by rw [Int.toNat_of_nonneg h.1], rfl⟩

section
variable {H : Type} {enc : TypeId × Value → H} {w : World} {base : Nat} {spare : Nat → Bool} {held : Bool}

theorem addr_of_cell {w : World} {a : Addr} {v : Value} (h : w.cell? (a.add 0) = some v) : a = ⟨a.block, a.off, none⟩ ∧ a.block < w.heap.size := by
  have h0 : a.add 0 = a := if_pos rfl
  rw [h0] at h
  have hs := World.cell?_spot h
  refine ⟨?_, block_lt_of_cell h⟩
  obtain ⟨b, o, s⟩ := a
  simp only at hs
  rw [hs]
theorem cell_add {w : World} {a : Addr} {j : Nat} {v : Value} (ha : a = ⟨a.block, a.off, none⟩) (h : w.cell? (a.add j) = some v) : w.cell? ⟨a.block, a.off + j, none⟩ = some v := by
  rw [ha, add_plain] at h
  exact h

set_option maxRecDepth 100000 in
/-- A slice of bytes that came in. -/
theorem bytes_open {v : Value} {d : DataW H} {ps : List MemPlace} (hs : ∀ b, spare b = true) (hsz : ∀ el sp, d = .slice el sp → (el.length + sp.length) * Tryz.prog.bytesOf 5 ≤ reachBytes) {base2 : Nat} (hok : Value.okWide Tryz.prog w .any base2 22 v) (h : DataW.Trod enc Tryz.prog w base spare held 22 v d ps) :
    ∃ (A : Option Addr) (cap : Nat) (l : List UInt8), v = .slice A l.length cap ∧ Rd w w.heap.size A l ∧ (A = none → cap = 0) ∧ l.length ≤ cap ∧ l.length ≤ 140737488351232 := by
  obtain ⟨a0, len, cap, rfl⟩ := okWide_slice Tryz.underlying22 hok
  obtain ⟨fuel, hf⟩ := h
  have hf' : DataW.trod enc Tryz.prog w base spare held fuel 22 [.slice a0 len cap] = some (d, ps) := hf
  rcases open_ints Tryz.underlying22 Tryz.underlying5 cellsU hf' with ⟨hc, _⟩ | ⟨ad, ln, cp, zs, hc, _, hl, hm, hz, hx, hcell, hwf⟩
  · simp only [List.cons.injEq, Value.slice.injEq, and_true] at hc
    obtain ⟨rfl, rfl, rfl⟩ := hc
    exact ⟨none, 0, [], rfl, Rd.nil _ _ _, fun _ => rfl, Nat.le_refl _, by simp⟩
  · simp only [List.cons.injEq, Value.slice.injEq, and_true] at hc
    obtain ⟨rfl, rfl, rfl⟩ := hc
    rw [if_pos (hs _)] at hz
    have hreach := hsz _ _ (Prod.mk.inj hx).1
    rw [bytesU] at hreach
    simp only [lits, List.length_map, List.length_take, List.length_drop, reachBytes] at hreach
    have hlen : ((zs.take len).map fun z => UInt8.ofNat z.toNat).length = len := by rw [List.length_map, List.length_take]; omega
    refine ⟨some ad, cap, (zs.take len).map fun z => UInt8.ofNat z.toNat, by rw [hlen], fun hne => ?_, (fun e => by cases e), by rw [hlen]; exact hl, by rw [hlen]; omega⟩
    have h0 : 0 < len := by
      rcases Nat.eq_zero_or_pos len with e | e
      · exact absurd (List.eq_nil_of_length_eq_zero (hlen.trans e)) hne
      · exact e
    obtain ⟨e1, e2⟩ := addr_of_cell (hcell 0 (by omega))
    refine ⟨ad.block, ad.off, by rw [← e1], e2, fun j x hj => ?_⟩
    have hj' : j < len := by
      have := (List.getElem?_eq_some_iff.1 hj).1
      omega
    rw [List.getElem?_map, List.getElem?_take_of_lt hj'] at hj
    obtain ⟨z, hz1, rfl⟩ := Option.map_eq_some_iff.1 hj
    have h1 := cell_add e1 (hcell j (by omega))
    rw [List.getD_eq_getElem?_getD, hz1] at h1
    have hw := hwf z (List.mem_of_getElem? hz1)
    have hb : 0 ≤ z ∧ z ≤ 255 := by simpa using bounds_u8 hw
    rw [h1]
    have hn : ((UInt8.ofNat z.toNat).toNat : Int) = z := by
      rw [UInt8.toNat_ofNat_of_lt' (by have := hb.2; show z.toNat < 256; omega)]
      omega
    rw [hn]
    rfl

theorem cellsI : Tryz.prog.cellsOf 3 = 1 := by kernel_rfl
theorem bytesI : Tryz.prog.bytesOf 3 = 8 := by kernel_rfl
set_option maxRecDepth 100000 in
/-- A slice of numbers that came in. -/
theorem ints_open {v : Value} {d : DataW H} {ps : List MemPlace} (hs : ∀ b, spare b = true) (hsz : ∀ el sp, d = .slice el sp → (el.length + sp.length) * Tryz.prog.bytesOf 3 ≤ reachBytes) {base2 : Nat} (hok : Value.okWide Tryz.prog w .any base2 66 v) (h : DataW.Trod enc Tryz.prog w base spare held 66 v d ps) :
    ∃ (A : Option Addr) (cap : Nat) (l : List Int), v = .slice A l.length cap ∧ RdI w w.heap.size A l ∧ (A = none → cap = 0) ∧ l.length ≤ cap ∧ l.length ≤ 140737488351232 := by
  obtain ⟨a0, len, cap, rfl⟩ := okWide_slice Tryz.underlying66 hok
  obtain ⟨fuel, hf⟩ := h
  have hf' : DataW.trod enc Tryz.prog w base spare held fuel 66 [.slice a0 len cap] = some (d, ps) := hf
  rcases open_ints Tryz.underlying66 Tryz.underlying3 cellsI hf' with ⟨hc, _⟩ | ⟨ad, ln, cp, zs, hc, _, hl, hm, hz, hx, hcell, hwf⟩
  · simp only [List.cons.injEq, Value.slice.injEq, and_true] at hc
    obtain ⟨rfl, rfl, rfl⟩ := hc
    exact ⟨none, 0, [], rfl, RdI.nil _ _ _, fun _ => rfl, Nat.le_refl _, by simp⟩
  · simp only [List.cons.injEq, Value.slice.injEq, and_true] at hc
    obtain ⟨rfl, rfl, rfl⟩ := hc
    rw [if_pos (hs _)] at hz
    have hreach := hsz _ _ (Prod.mk.inj hx).1
    rw [bytesI] at hreach
    simp only [lits, List.length_map, List.length_take, List.length_drop, reachBytes] at hreach
    have hlen : (zs.take len).length = len := by rw [List.length_take]; omega
    refine ⟨some ad, cap, zs.take len, by rw [hlen], ⟨fun hne => ?_, fun x hx => ?_⟩, (fun e => by cases e), by rw [hlen]; exact hl, by rw [hlen]; omega⟩
    · have h0 : 0 < len := by
        rcases Nat.eq_zero_or_pos len with e | e
        · exact absurd (List.eq_nil_of_length_eq_zero (hlen.trans e)) hne
        · exact e
      obtain ⟨e1, e2⟩ := addr_of_cell (hcell 0 (by omega))
      refine ⟨ad.block, ad.off, by rw [← e1], e2, fun j x hj => ?_⟩
      have hj' : j < len := by
        have := (List.getElem?_eq_some_iff.1 hj).1
        omega
      rw [List.getElem?_take_of_lt hj'] at hj
      have h1 := cell_add e1 (hcell j (by omega))
      rw [List.getD_eq_getElem?_getD, hj] at h1
      exact h1
    · have hw := hwf x (List.mem_of_mem_take hx)
      simpa using bounds_i64 hw
end

end Go.Proofs.YtcdhakfmljjaoaaGreatDoor

/-
  Slices of numbers that the call owns; the helper SameInts.
-/
namespace Go.Proofs.YtcdhakfmljjaoaaGreatDoor
set_option maxRecDepth 100000
open Go.RowKit Go.Maps Go.ChangeShapes Go.WideShapes Go.Deep

theorem infoI : (Tryz.prog.info? 3).map (fun i => (i.zero, i.size, i.bytes)) = some (some (.int .i64 0), 1, 8) := by kernel_rfl

/-- Numbers as cells. -/
def is (l : List Int) : List Value := l.map (.int .i64)
theorem is_length (l : List Int) : (is l).length = l.length := by unfold is; rw [List.length_map]
theorem is_append (a b : List Int) : is (a ++ b) = is a ++ is b := by unfold is; rw [List.map_append]
theorem is_get (l : List Int) (j : Nat) : (is l)[j]? = l[j]?.map (.int .i64) := by unfold is; rw [List.getElem?_map]
theorem is_one (l : List Int) : ∀ u ∈ is l, u.oneCell' = true := by
  unfold is
  intro u hu
  obtain ⟨b, _, rfl⟩ := List.mem_map.1 hu
  rfl
theorem is_set (l : List Int) (k : Nat) (c : Int) : (is l).set k (.int .i64 c) = is (l.set k c) := by unfold is; rw [List.map_set]

/-- A slice of the call's own that holds these numbers. -/
def OwnI (w : World) (base : Nat) (v : Value) (l : List Int) : Prop := w.ownsRow base 3 1 v l.length (is l)
theorem OwnI.kept {w w' : World} {base : Nat} {v : Value} {l : List Int} (h : OwnI w base v l) (hF : Fr (fun _ => False) w w') : OwnI w' base v l := by
  obtain ⟨h1, h2⟩ := h
  refine ⟨h1, ?_⟩
  rcases h2 with h2 | ⟨g, cap, cur, hv, hg, hh, r⟩
  · exact Or.inl h2
  · exact Or.inr ⟨g, cap, cur, hv, hg, (hF.block g (Array.getElem?_eq_some_iff.1 hh).1 id).trans hh, r⟩
theorem OwnI.cell {w : World} {base cap : Nat} {A : Option Addr} {l : List Int} (h : OwnI w base (.slice A l.length cap) l) (hne : l ≠ []) :
    ∃ g, A = some ⟨g, 0, none⟩ ∧ base ≤ g ∧ g < w.heap.size ∧ ∀ j x, l[j]? = some x → w.cell? ⟨g, j, none⟩ = some (.int .i64 x) := by
  obtain ⟨_, h2⟩ := h
  rcases h2 with ⟨_, h0⟩ | ⟨g, cap', cur, hv, hg, hh, _, _, _, ht⟩
  · exact absurd (List.eq_nil_of_length_eq_zero h0) hne
  · cases hv
    refine ⟨g, rfl, hg, (Array.getElem?_eq_some_iff.1 hh).1, fun j x hj => ?_⟩
    rw [cellAt hh, ← Array.getElem?_toList]
    have h1 : (cur.toList.take (l.length * 1))[j]? = some (.int .i64 x) := by rw [ht, is_get, hj]; rfl
    rw [List.getElem?_take] at h1
    split at h1
    · exact h1
    · cases h1
theorem OwnI.rd {w : World} {base cap : Nat} {A : Option Addr} {l : List Int} (h : OwnI w base (.slice A l.length cap) l) (hb : ∀ x ∈ l, -9223372036854775808 ≤ x ∧ x ≤ 9223372036854775807) : RdI w w.heap.size A l := by
  refine ⟨fun hne => ?_, hb⟩
  obtain ⟨g, hg, _, hlt, hc⟩ := h.cell hne
  exact ⟨g, 0, hg, hlt, fun j x hj => by rw [Nat.zero_add]; exact hc j x hj⟩
/-- Where an own slice lies, if it holds a number. -/
theorem OwnI.at_ {w : World} {base cap : Nat} {A : Option Addr} {l : List Int} (h : OwnI w base (.slice A l.length cap) l) {k : Nat} (hk : k < l.length) :
    ∃ g, A = some ⟨g, 0, none⟩ ∧ base ≤ g ∧ g < w.heap.size ∧ w.cell? ⟨g, k, none⟩ = some (.int .i64 l[k]) ∧ w.frozen? ⟨g, k, none⟩ = false ∧
      ∀ c : Int, OwnI (w.setCell ⟨g, k, none⟩ (.int .i64 c)) base (.slice A (l.set k c).length cap) (l.set k c) := by
  obtain ⟨h1, h2⟩ := id h
  rcases h2 with ⟨_, h0⟩ | ⟨g, cap', cur, hv, hg, hh, hn, hm, hs, ht⟩
  · omega
  · cases hv
    obtain ⟨g', e, _, _, hc⟩ := h.cell (by intro e; subst e; simp at hk)
    cases e
    refine ⟨g, rfl, hg, (Array.getElem?_eq_some_iff.1 hh).1, hc k _ (List.getElem?_eq_getElem hk), freeAt hh k, fun c => ⟨by rw [is_length]; omega, Or.inr ⟨g, cap, cur.setIfInBounds k (.int .i64 c), rfl, hg, ?_, ?_, hm, ?_, ?_⟩⟩⟩
    · exact heap_setCell_same _ _ _ _ _ _ hh
    · rw [List.length_set]; exact hn
    · rw [Array.size_setIfInBounds]; exact hs
    · rw [Array.toList_setIfInBounds, List.length_set, List.take_set, ht, is_set]
theorem ownI_made (w : World) (l : List Int) (h : l.length ≤ maxLen) : OwnI (w.alloc (.cells (is l).toArray 3)) w.heap.size (.slice (some ⟨w.heap.size, 0, none⟩) l.length l.length) l :=
  ⟨by rw [is_length, Nat.mul_one], Or.inr ⟨w.heap.size, l.length, (is l).toArray, rfl, Nat.le_refl _, heap_alloc_new _ _, Nat.le_refl _, h, by simp [is_length], by rw [Nat.mul_one]; exact List.take_of_length_le (by simp [is_length])⟩⟩
/-- .. or nil, or a slice with an address: what an append leaves. -/
theorem OwnI.shape {w : World} {base n : Nat} {v : Value} {l : List Int} {xs : List Value} (hn : n = l.length) (hx : xs = is l) (h : w.ownsRow base 3 1 v n xs) : ∃ A cap, v = .slice A l.length cap ∧ OwnI w base (.slice A l.length cap) l := by
  subst hn
  subst hx
  obtain ⟨h1, h2⟩ := id h
  rcases h2 with ⟨rfl, h0⟩ | ⟨g, cap, cur, rfl, hg, hh, r⟩
  · refine ⟨none, 0, by rw [h0], ?_⟩
    rw [h0]
    exact h
  · exact ⟨_, cap, rfl, h⟩

theorem takeI_same_succ {l1 l2 : List Int} {k : Nat} (h : l1.take k = l2.take k) (h1 : k < l1.length) (h2 : k < l2.length) (e : l1[k] = l2[k]) : l1.take (k + 1) = l2.take (k + 1) := by
  rw [List.take_succ_eq_append_getElem h1, List.take_succ_eq_append_getElem h2, h, e]




end Go.Proofs.YtcdhakfmljjaoaaGreatDoor

/-
  Bits of bytes, bytes of bits (mathematics).
-/
namespace Go.Proofs.YtcdhakfmljjaoaaGreatDoor.fl
set_option maxRecDepth 100000

/-- The lowest k bits of a number, lowest first. -/
def lowI (n : Int) : Nat → List Int
  | 0 => []
  | k + 1 => n % 2 :: lowI (n / 2) k
/-- A number's worth, lowest bit first. -/
def numI : List Int → Int
  | [] => 0
  | x :: r => x + 2 * numI r
def AllBit (l : List Int) : Prop := ∀ x ∈ l, x = 0 ∨ x = 1
theorem lowI_length : ∀ (k : Nat) (n : Int), (lowI n k).length = k
  | 0, _ => rfl
  | k + 1, n => by rw [lowI, List.length_cons, lowI_length k]
theorem ediv_pow_succ (n : Int) (k : Nat) : n / 2 / 2 ^ k = n / 2 ^ (k + 1) := by
  rw [Int.ediv_ediv_of_nonneg (by omega), Int.pow_succ, Int.mul_comm]
theorem lowI_snoc : ∀ (k : Nat) (n : Int), lowI n (k + 1) = lowI n k ++ [n / 2 ^ k % 2]
  | 0, n => by simp [lowI]
  | k + 1, n => by
    rw [lowI, lowI_snoc k, lowI, List.cons_append, ediv_pow_succ]
theorem low_bits : ∀ (k : Nat) (n : Int), AllBit (lowI n k)
  | 0, _ => fun x hx => by simp [lowI] at hx
  | k + 1, n => fun x hx => by
    rw [lowI] at hx
    rcases List.mem_cons.1 hx with rfl | hx
    · omega
    · exact low_bits k _ x hx
theorem AllBit.append {a b : List Int} (h : AllBit a) (k : AllBit b) : AllBit (a ++ b) := fun x hx => by
  rcases List.mem_append.1 hx with hx | hx
  · exact h x hx
  · exact k x hx
theorem AllBit.sub {a b : List Int} (h : AllBit a) (hs : b.Sublist a) : AllBit b := fun x hx => h x (hs.subset hx)
theorem zeros_bits (n : Nat) : AllBit (List.replicate n 0) := fun _ hx => Or.inl (List.eq_of_mem_replicate hx)
theorem numI_append : ∀ (a b : List Int), numI (a ++ b) = numI a + 2 ^ a.length * numI b
  | [], b => by simp [numI]
  | x :: r, b => by
    rw [List.cons_append, numI, numI, numI_append r b, List.length_cons, Int.pow_succ, Int.mul_add, ← Int.mul_assoc, Int.mul_comm 2 (2 ^ r.length)]
    omega
theorem numI_zeros : ∀ n, numI (List.replicate n 0) = 0
  | 0 => rfl
  | n + 1 => by rw [List.replicate_succ, numI, numI_zeros n]; rfl
theorem numI_low : ∀ (k : Nat) (n : Int), numI (lowI n k) = n % 2 ^ k
  | 0, n => by simp [lowI, numI, Int.emod_one]
  | k + 1, n => by
    rw [lowI, numI, numI_low k]
    have h1 := Int.emod_add_mul_ediv n 2
    have h2 := Int.emod_add_mul_ediv (n / 2) (2 ^ k)
    have h3 := Int.emod_add_mul_ediv n (2 ^ (k + 1))
    rw [ediv_pow_succ] at h2
    have hp : (2 : Int) ^ (k + 1) = 2 * 2 ^ k := by rw [Int.pow_succ, Int.mul_comm]
    rw [hp] at h3 h2 ⊢
    rw [Int.mul_assoc] at h3
    generalize n / (2 * 2 ^ k) = q at h2 h3
    generalize (2 : Int) ^ k * q = z at h2 h3
    omega
theorem numI_in : ∀ (l : List Int), AllBit l → 0 ≤ numI l ∧ numI l < 2 ^ l.length
  | [], _ => by simp [numI]
  | x :: r, h => by
    have ih := numI_in r (fun y hy => h y (by simp [hy]))
    have hx := h x (by simp)
    rw [numI, List.length_cons, Int.pow_succ]
    omega
theorem low_num : ∀ (l : List Int), AllBit l → lowI (numI l) l.length = l
  | [], _ => rfl
  | x :: r, h => by
    have hx := h x (by simp)
    rw [List.length_cons, lowI, numI]
    have e1 : (x + 2 * numI r) % 2 = x := by omega
    have e2 : (x + 2 * numI r) / 2 = numI r := by omega
    rw [e1, e2, low_num r (fun y hy => h y (by simp [hy]))]

/-- The bits of bytes. -/
def bitsOf (b : List UInt8) : List Int := b.flatMap fun x => lowI (x.toNat : Int) 8
theorem bitsOf_cons (x : UInt8) (b : List UInt8) : bitsOf (x :: b) = lowI (x.toNat : Int) 8 ++ bitsOf b := by unfold bitsOf; rw [List.flatMap_cons]
theorem bitsOf_append (a b : List UInt8) : bitsOf (a ++ b) = bitsOf a ++ bitsOf b := by unfold bitsOf; rw [List.flatMap_append]
theorem bitsOf_length : ∀ b : List UInt8, (bitsOf b).length = 8 * b.length
  | [] => rfl
  | x :: b => by rw [bitsOf_cons, List.length_append, lowI_length, bitsOf_length b, List.length_cons]; omega
theorem bitsOf_bits : ∀ b : List UInt8, AllBit (bitsOf b)
  | [] => fun x hx => by cases hx
  | x :: b => by rw [bitsOf_cons]; exact (low_bits 8 _).append (bitsOf_bits b)
theorem bitsOf_take (b : List UInt8) (k : Nat) (hk : k ≤ b.length) : (bitsOf b).take (8 * k) = bitsOf (b.take k) := by
  have h : bitsOf b = bitsOf (b.take k) ++ bitsOf (b.drop k) := by rw [← bitsOf_append, List.take_append_drop]
  have hl : (bitsOf (b.take k)).length = 8 * k := by rw [bitsOf_length, List.length_take]; omega
  rw [h, ← hl, List.take_left]
theorem bitsOf_drop (b : List UInt8) (k : Nat) (hk : k ≤ b.length) : (bitsOf b).drop (8 * k) = bitsOf (b.drop k) := by
  have h : bitsOf b = bitsOf (b.take k) ++ bitsOf (b.drop k) := by rw [← bitsOf_append, List.take_append_drop]
  have hl : (bitsOf (b.take k)).length = 8 * k := by rw [bitsOf_length, List.length_take]; omega
  rw [h, ← hl, List.drop_left]
theorem bitsOf_snoc {b : List UInt8} {k : Nat} {x : UInt8} (h : b[k]? = some x) : bitsOf (b.take (k + 1)) = bitsOf (b.take k) ++ lowI (x.toNat : Int) 8 := by
  rw [List.take_add_one, h, bitsOf_append]
  simp [bitsOf]

/-- The first k bytes of bits. -/
def packTo (l : List Int) (k : Nat) : List UInt8 := (List.range k).map fun i => UInt8.ofNat (numI ((l.drop (8 * i)).take 8)).toNat
def packI (l : List Int) : List UInt8 := packTo l ((l.length + 7) / 8)
theorem packTo_length (l : List Int) (k : Nat) : (packTo l k).length = k := by unfold packTo; simp
theorem packTo_succ (l : List Int) (k : Nat) : packTo l (k + 1) = packTo l k ++ [UInt8.ofNat (numI ((l.drop (8 * k)).take 8)).toNat] := by
  unfold packTo
  rw [List.range_succ, List.map_append]
  rfl
theorem packI_length (l : List Int) : (packI l).length = (l.length + 7) / 8 := packTo_length _ _
theorem byte_in {l : List Int} (h : AllBit l) (hl : l.length ≤ 8) : 0 ≤ numI l ∧ numI l < 256 := by
  have := numI_in l h
  have hp : (2 : Int) ^ l.length ≤ 2 ^ 8 := by exact_mod_cast Nat.pow_le_pow_right (n := 2) (by omega) hl
  omega
theorem byte_at {l : List Int} (h : AllBit l) (i : Nat) : ((UInt8.ofNat (numI ((l.drop (8 * i)).take 8)).toNat).toNat : Int) = numI ((l.drop (8 * i)).take 8) := by
  have hb := byte_in (l := (l.drop (8 * i)).take 8) (h.sub ((List.take_sublist _ _).trans (List.drop_sublist _ _))) (by rw [List.length_take]; omega)
  rw [UInt8.toNat_ofNat']
  omega
/-- The bits of a byte of bits: those, filled up with noughts. -/
theorem low_pad {l : List Int} (h : AllBit l) (hl : l.length ≤ 8) : lowI (numI l) 8 = l ++ List.replicate (8 - l.length) 0 := by
  have hz : AllBit (l ++ List.replicate (8 - l.length) 0) := h.append (zeros_bits _)
  have h1 := low_num _ hz
  rw [numI_append, numI_zeros, Int.mul_zero, Int.add_zero, List.length_append, List.length_replicate, show l.length + (8 - l.length) = 8 by omega] at h1
  exact h1
theorem bits_packTo {l : List Int} (h : AllBit l) : ∀ k, 8 * k ≤ l.length → bitsOf (packTo l k) = l.take (8 * k)
  | 0, _ => rfl
  | k + 1, hk => by
    rw [packTo_succ, bitsOf_append, bits_packTo h k (by omega)]
    have hb := byte_at h k
    have e : bitsOf [UInt8.ofNat (numI ((l.drop (8 * k)).take 8)).toNat] = (l.drop (8 * k)).take 8 := by
      rw [bitsOf_cons, hb]
      have hl8 : ((l.drop (8 * k)).take 8).length = 8 := by rw [List.length_take, List.length_drop]; omega
      have h2 := low_num _ (h.sub ((List.take_sublist 8 _).trans (List.drop_sublist (8 * k) l)))
      rw [hl8] at h2
      rw [h2]
      simp [bitsOf]
    rw [e, show 8 * (k + 1) = 8 * k + 8 by omega, List.take_add]
theorem bits_pack {l : List Int} (h : AllBit l) : bitsOf (packI l) = l ++ List.replicate (8 * ((l.length + 7) / 8) - l.length) 0 := by
  have hd : 8 * (l.length / 8) ≤ l.length := by omega
  rcases Nat.eq_zero_or_pos (l.length % 8) with h0 | h0
  · have e : (l.length + 7) / 8 = l.length / 8 := by omega
    unfold packI
    rw [e, bits_packTo h _ hd, show 8 * (l.length / 8) = l.length by omega, List.take_length]
    simp
  · have e : (l.length + 7) / 8 = l.length / 8 + 1 := by omega
    unfold packI
    rw [e, packTo_succ, bitsOf_append, bits_packTo h _ hd, bitsOf_cons, byte_at h]
    have hl8 : ((l.drop (8 * (l.length / 8))).take 8).length = l.length % 8 := by rw [List.length_take, List.length_drop]; omega
    rw [low_pad (h.sub ((List.take_sublist 8 _).trans (List.drop_sublist _ l))) (by omega), hl8]
    have ht : (l.drop (8 * (l.length / 8))).take 8 = l.drop (8 * (l.length / 8)) := List.take_of_length_le (by rw [List.length_drop]; omega)
    rw [ht]
    have hb : bitsOf [] = [] := rfl
    rw [hb, List.append_nil, ← List.append_assoc, List.take_append_drop]
    congr 2
    omega
theorem num_byte (x : UInt8) : numI (lowI (x.toNat : Int) 8) = x.toNat := by
  rw [numI_low]
  have := x.toNat_lt
  omega
theorem pack_bits_to (b : List UInt8) : ∀ k, k ≤ b.length → packTo (bitsOf b) k = b.take k
  | 0, _ => rfl
  | k + 1, hk => by
    have hx := List.getElem?_eq_getElem (l := b) (i := k) (by omega)
    have e : b.take (k + 1) = b.take k ++ [b[k]'(by omega)] := by rw [List.take_add_one, hx]; rfl
    rw [e, packTo_succ, pack_bits_to b k (by omega), bitsOf_drop b k (by omega), List.drop_eq_getElem_cons (by omega), bitsOf_cons]
    congr 1
    have ht : (lowI ((b[k]'(by omega)).toNat : Int) 8 ++ bitsOf (b.drop (k + 1))).take 8 = lowI ((b[k]'(by omega)).toNat : Int) 8 := List.take_left' (lowI_length _ _)
    rw [ht, num_byte, Int.toNat_natCast, UInt8.ofNat_toNat]
theorem pack_bits (b : List UInt8) : packI (bitsOf b) = b := by
  unfold packI
  rw [bitsOf_length, show (8 * b.length + 7) / 8 = b.length by omega, pack_bits_to b _ (Nat.le_refl _), List.take_length]
/-- Bits of bytes within bytes. -/
theorem pack_part (b : List UInt8) (k n : Nat) (h : k + n ≤ b.length) : packI (((bitsOf b).drop (8 * k)).take (8 * n)) = (b.drop k).take n := by
  rw [bitsOf_drop b k (by omega), bitsOf_take _ n (by rw [List.length_drop]; omega), pack_bits]
end Go.Proofs.YtcdhakfmljjaoaaGreatDoor.fl

/-
  The document's Bits and Number.
-/

namespace Go.Proofs.YtcdhakfmljjaoaaGreatDoor.fl
set_option maxRecDepth 100000
open Go.RowKit Go.Maps
set_option maxRecDepth 100000

/-- A new slice of these numbers. -/
def NewL (w : World) (l : List Int) (e : Ending) (w' : World) : Prop := ∃ A cap, e = .returned (.slice A l.length cap) ∧ OwnI w' w.heap.size (.slice A l.length cap) l ∧ Fr (fun _ => False) w w'
theorem ownI_nil (w : World) : OwnI (w.alloc (.cells #[] 3)) w.heap.size (.slice (some ⟨w.heap.size, 0, none⟩) 0 0) [] := World.ownsRow_made w #[] 0 (Nat.le_refl _) (Nat.zero_le _) (by simp)
theorem own_geI {w0 w : World} {n : Nat} {v : Value} {xs : List Value} {q : Nat} (h : w.ownsRow w0.heap.size 3 1 v n xs) (e : v.ownBlock = some q) : False ∨ w0.heap.size ≤ q := by
  rcases h.2 with ⟨rfl, _⟩ | ⟨g, cap, cur, rfl, hg, _⟩
  · cases e
  · cases e
    exact Or.inr hg
theorem newsI (w : World) {g : Nat} {x : Int} (h : w.heap[g]? = some (.cells #[.int .i64 x] 3 (0, 0))) : ∀ j u, [Value.int .i64 x][j]? = some u → w.cell? ((⟨g, 0, none⟩ : Addr).add j) = some u := fun j u hu => by
  rw [add_plain, cellAt h, Nat.zero_add, ← Array.getElem?_toList]
  exact hu
theorem oneI (x : Int) : ∀ u ∈ [Value.int IntKind.i64 x], u.oneCell' = true := by
  intro u hu
  obtain rfl := List.mem_singleton.1 hu
  rfl
/-- What an append of one number leaves. -/
theorem snocI {w0 w w' : World} {p : Option Addr} {m c : Nat} {L : List Int} {x : Int} {v : Value} (hm : m = L.length) (ho : w.ownsRow w0.heap.size 3 1 (.slice p m c) m (is L)) (hF : Fr (fun _ => False) w0 w)
    (hown : w'.ownsRow w0.heap.size 3 1 v (m + 1) (is L ++ [.int .i64 x])) (hg : w.grownBy w' (Value.slice p m c).ownBlock) : ∃ p' c', v = .slice p' (m + 1) c' ∧ m + 1 = (L ++ [x]).length ∧ w'.ownsRow w0.heap.size 3 1 (.slice p' (m + 1) c') (m + 1) (is (L ++ [x])) ∧ Fr (fun _ => False) w0 w' := by
  have hl : m + 1 = (L ++ [x]).length := by rw [List.length_append, ← hm]; rfl
  obtain ⟨p', c', e, h⟩ := OwnI.shape (l := L ++ [x]) hl (by rw [is_append]; rfl) hown
  rw [← hl] at e h
  unfold OwnI at h
  rw [← hl] at h
  exact ⟨p', c', e, hl, h, hF.grown hg (fun q e => own_geI ho e)⟩

end Go.Proofs.YtcdhakfmljjaoaaGreatDoor.fl

/-
  The document's Number and Pack.
-/

namespace Go.Proofs.YtcdhakfmljjaoaaGreatDoor.fl
set_option maxRecDepth 100000
open Go.RowKit Go.Maps
set_option maxRecDepth 100000

theorem num_drop {l : List Int} {k : Nat} {x : Int} (h : l[k]? = some x) : numI (l.drop k) = x + 2 * numI (l.drop (k + 1)) := by
  obtain ⟨h1, h2⟩ := List.getElem?_eq_some_iff.1 h
  rw [List.drop_eq_getElem_cons h1, h2, numI]
theorem num_drop_in {l : List Int} (h : AllBit l) (hl : l.length ≤ 24) (k : Nat) : 0 ≤ numI (l.drop k) ∧ numI (l.drop k) < 16777216 := by
  have h1 := numI_in (l.drop k) (h.sub (List.drop_sublist _ _))
  have hp : (2 : Int) ^ (l.drop k).length ≤ 2 ^ 24 := by exact_mod_cast Nat.pow_le_pow_right (n := 2) (by omega) (by rw [List.length_drop]; omega)
  omega

theorem num_take_succ {l : List Int} {i j : Nat} {x : Int} (h : l[i + j]? = some x) : numI ((l.drop i).take (j + 1)) = numI ((l.drop i).take j) + x * 2 ^ j := by
  have hd : (l.drop i)[j]? = some x := by rw [List.getElem?_drop]; exact h
  have hl : ((l.drop i).take j).length = j := by
    have := (List.getElem?_eq_some_iff.1 hd).1
    rw [List.length_take]
    omega
  rw [List.take_add_one, hd, numI_append, hl]
  simp [numI, Int.mul_comm]
theorem snocB {w0 w w' : World} {p : Option Addr} {m c : Nat} {L : List UInt8} {x : UInt8} {v : Value} (hm : m = L.length) (ho : w.ownsRow w0.heap.size 5 1 (.slice p m c) m (bs L)) (hF : Fr (fun _ => False) w0 w)
    (hown : w'.ownsRow w0.heap.size 5 1 v (m + 1) (bs L ++ [.int .u8 (x.toNat : Int)])) (hg : w.grownBy w' (Value.slice p m c).ownBlock) : ∃ p' c', v = .slice p' (m + 1) c' ∧ m + 1 = (L ++ [x]).length ∧ w'.ownsRow w0.heap.size 5 1 (.slice p' (m + 1) c') (m + 1) (bs (L ++ [x])) ∧ Fr (fun _ => False) w0 w' := by
  have hl : m + 1 = (L ++ [x]).length := by rw [List.length_append, ← hm]; rfl
  have hq : ∀ q, (Value.slice p m c).ownBlock = some q → False ∨ w0.heap.size ≤ q := fun q e => by
    rcases ho.2 with ⟨h, _⟩ | ⟨g, cap, cur, h, hb, _⟩
    · rw [h] at e; cases e
    · rw [h] at e; cases e
      exact Or.inr hb
  rw [show bs L ++ [.int .u8 (x.toNat : Int)] = bs (L ++ [x]) by rw [bs_append]; rfl] at hown
  rcases hown.2 with ⟨_, h0⟩ | ⟨g, cap, cur, rfl, _⟩
  · omega
  · exact ⟨_, cap, rfl, hl, hown, hF.grown hg hq⟩

set_option maxHeartbeats 4000000 in
theorem rpack (w : World) (A : Option Addr) (cap : Nat) (l : List Int) (hr : RdI w w.heap.size A l) (hl : l.length ≤ 100000000) (hb : AllBit l) :
    Calls Tryz.prog 47 #[.slice A l.length cap] w fun e w' => ∃ A' cap', e = .returned (.slice A' (packI l).length cap') ∧ Own w' w.heap.size (.slice A' (packI l).length cap') (packI l) ∧ Fr (fun _ => False) w w' := by
  obtain ⟨n, hn⟩ : ∃ n, n = l.length := ⟨_, rfl⟩
  have HR := Lib.hid (⟨hr, hn, hb⟩ : _ ∧ _ ∧ _)
  rw [← hn] at hl ⊢
  obtain ⟨i0, hi, hz0, hz1, hz2⟩ := info_parts infoB
  have HI := Lib.hid (⟨hi, hz0, hz1, hz2⟩ : _ ∧ _ ∧ _ ∧ _)
  have H0 : Hid ((w.alloc (.cells #[] 5)).ownsRow w.heap.size 5 1 (.slice (some ⟨w.heap.size, 0, none⟩) 0 0) 0 (bs []) ∧ Fr (fun _ => False) w (w.alloc (.cells #[] 5))) := Lib.hid ⟨World.ownsRow_made w #[] 0 (Nat.le_refl _) (Nat.zero_le _) (by simp), (Fr.refl _ w).alloc _⟩
  clear hr hn hb hi hz0 hz1 hz2
  go_enter Tryz.func47, Tryz.ntmps47
  go_wp2_with fail
  go_loopw [3, 4] (fun v3 v4 wr => ∃ (i k : Nat) (p : Option Addr) (c : Nat), i = 8 * k ∧ i < n + 8 ∧ v4 = .int .i64 i ∧ v3 = .slice p k c ∧ Hid (wr.ownsRow w.heap.size 5 1 (.slice p k c) k (bs (packTo l k)) ∧ Fr (fun _ => False) w wr)) (fun _ v _ => n + 8 - (intOf v).toNat)
  case atStart => exact ⟨0, 0, _, _, rfl, by omega, rfl, rfl, (show _ ∧ _ from H0.out)⟩
  case round =>
    obtain ⟨i, k, p, c, hik, hin, rfl, rfl, HK⟩ := hrel
    have HIK := Lib.hid hik
    have hk2 : k ≤ 100000000 := by omega
    clear H0 hik
    by_cases hlt : i < n
    · go_wp2_with fail
      go_loop [5, 6, 7] (fun v5 v6 v7 => ∃ (j : Nat) (N W : Int), j ≤ 8 ∧ i + j ≤ n ∧ 0 ≤ N ∧ N < 256 ∧ 1 ≤ W ∧ W ≤ 256 ∧ v7 = .int .i64 ((i + j : Nat) : Int) ∧ v5 = .int .i64 N ∧ v6 = .int .i64 W ∧ Hid (N = numI ((l.drop i).take j) ∧ W = 2 ^ j)) (fun _ _ v => i + 8 - (intOf v).toNat)
      case atStart => exact ⟨0, 0, 1, by omega, by omega, by omega, by omega, by omega, by omega, rfl, rfl, rfl, (show _ ∧ _ from ⟨rfl, rfl⟩)⟩
      case round =>
        obtain ⟨j, N, W, hj, hjn, hN0, hN1, hW0, hW1, rfl, rfl, rfl, HJ⟩ := hrel
        by_cases hlt2 : j < 8 ∧ i + j < n
        · obtain ⟨hj8, hjn2⟩ := hlt2
          have hkl : i + j < l.length := by have := HR.out.2.1; omega
          obtain ⟨blk, off, rfl, -, hc, -, -⟩ := (HR.out.1.still HK.out.2 (Nat.le_refl _)).at_ hkl
          have hs := num_take_succ (List.getElem?_eq_getElem hkl)
          have hbit := HR.out.2.2 l[i + j] (List.getElem_mem hkl)
          have hbt := byte_in (l := (l.drop i).take (j + 1)) (HR.out.2.2.sub ((List.take_sublist _ _).trans (List.drop_sublist _ _))) (by rw [List.length_take]; omega)
          obtain ⟨x, hx⟩ : ∃ x, x = l[i + j] := ⟨_, rfl⟩
          rw [← hx] at hc hs hbit
          rw [← HJ.out.1, ← HJ.out.2] at hs
          have HS := Lib.hid hs
          have hxw : 0 ≤ x * W ∧ x * W ≤ 256 := by rcases hbit with e | e <;> subst e <;> omega
          have hpw : W * 2 = 2 ^ (j + 1) := by rw [HJ.out.2, Int.pow_succ]
          have hp8 : (2 : Int) ^ (j + 1) ≤ 2 ^ 8 := by exact_mod_cast Nat.pow_le_pow_right (n := 2) (by omega) (by omega)
          rw [hs] at hbt
          obtain ⟨g1, g2⟩ := hbt
          obtain ⟨g3, g4⟩ := hxw
          obtain ⟨y, hy⟩ : ∃ y, y = x * W := ⟨_, rfl⟩
          rw [← hy] at g1 g2 g3 g4 HS
          have hyw : IntKind.i64.wrap (x * W) = y := by rw [← hy]; exact IntWalk.i64_in _ (by omega)
          have HPW := Lib.hid (⟨hpw, hp8, HS.out⟩ : _ ∧ _ ∧ _)
          have hw2 : W * 2 ≤ 256 := by have := HPW.out.1; have := HPW.out.2.1; omega
          have hii : ((i + j : Nat) : Int) < (i : Int) + 8 := by omega
          have hii2 : ((i + j : Nat) : Int) < n := by omega
          clear hs hbit hx hkl hpw hp8 hy HS
          go_wp2_with fail
          go_round
          case rel => exact ⟨j + 1, N + y, W * 2, by omega, by omega, by omega, by omega, by omega, by omega, by go_num, by go_num, by go_num, (show _ ∧ _ from ⟨HPW.out.2.2.symm, HPW.out.1⟩)⟩
          case measure => simp [intOf]; omega
        · have HE : Hid (N = numI ((l.drop (8 * k)).take 8)) := Lib.hid (by
            have h := HJ.out.1
            rw [← HIK.out, h]
            rcases Nat.lt_or_ge j 8 with h8 | h8
            · rw [List.take_of_length_le (i := 8) (by rw [List.length_drop]; have := HR.out.2.1; omega), List.take_of_length_le (by rw [List.length_drop]; have := HR.out.2.1; omega)]
            · rw [show j = 8 by omega])
          have hnot : ¬ (((i + j : Nat) : Int) < (i : Int) + 8 ∧ ((i + j : Nat) : Int) < n) := by omega
          have hwu : IntKind.u8.wrap N = ((UInt8.ofNat N.toNat).toNat : Int) := by
            rw [UInt8.toNat_ofNat', IntKind.wrap_u8]
            omega
          obtain ⟨y, hy⟩ : ∃ y, y = UInt8.ofNat N.toNat := ⟨_, rfl⟩
          have HY := Lib.hid (show y = UInt8.ofNat (numI ((l.drop (8 * k)).take 8)).toNat by rw [hy, HE.out])
          rw [← hy] at hwu
          have HFX := Lib.hid (HK.out.2.alloc (.cells #[.int .u8 (y.toNat : Int)] 5))
          have HKP := Lib.hid (show k = (packTo l k).length from (packTo_length _ _).symm)
          have hcase : (((i + j : Nat) : Int) < (i : Int) + 8 ∧ ¬ ((i + j : Nat) : Int) < n) ∨ ¬ ((i + j : Nat) : Int) < (i : Int) + 8 := by omega
          clear hnot hy hlt2
          rcases hcase with ⟨g1, g2⟩ | g1
          all_goals
            go_wp2_with (at_builtin; refine wpList_append_own _ rfl (.tmp 38) (.tmp 41) 22 rfl w.heap.size 5 i0 (.int .u8 0) 1 1 Tryz.underlying22 HI.out.1 HI.out.2.1 HI.out.2.2.1 HI.out.2.2.2 rfl (by omega) _ k (bs (packTo l k)) rfl (World.ownsRow.alloc HK.out.1 _) ⟨wr.heap.size, 0, none⟩ 1 1 [.int .u8 (y.toNat : Int)] rfl rfl (World.news_of_block (heap_alloc_new wr _)) (by intro u hu; simp at hu; subst hu; rfl) (by unfold maxLen; omega) (by omega) HFX.out.size ?_; intro v9 w9 hown9 hg9 _)
            obtain ⟨p', c', e', hl', ho', hF'⟩ := snocB HKP.out (World.ownsRow.alloc HK.out.1 _) HFX.out hown9 hg9
            subst e'
            have H9 := Lib.hid (⟨by rw [HY.out, ← packTo_succ] at ho'; exact ho', hF'⟩ : w9.ownsRow w.heap.size 5 1 (.slice p' (k + 1) c') (k + 1) (bs (packTo l (k + 1))) ∧ Fr (fun _ => False) w w9)
            have hik := HIK.out
            clear hown9 hg9 hl' ho' hF'
            go_wp2_with fail
            go_roundw
            case rel => exact ⟨i + 8, k + 1, p', c', by omega, by omega, by go_num, rfl, (show _ ∧ _ from H9.out)⟩
            case measure => simp [intOf]; omega
    · have hik := HIK.out
      have HE := Lib.hid (show packI l = packTo l k by unfold packI; rw [show (l.length + 7) / 8 = k by have := HR.out.2.1; omega])
      go_wp2_with fail
      go_ret
      have h := HK.out.1
      rw [HE.out, packTo_length]
      exact ⟨p, c, rfl, (show World.ownsRow _ _ _ _ _ _ _ by rw [packTo_length]; exact h), HK.out.2⟩
end Go.Proofs.YtcdhakfmljjaoaaGreatDoor.fl

/-
  The document's Low and High.
-/
namespace Go.Proofs.YtcdhakfmljjaoaaGreatDoor.fl
set_option maxRecDepth 100000
open Go.RowKit Go.Maps
set_option maxRecDepth 100000

/-- May a number of so many bits be? -/
def mayB (n k : Int) : Bool := decide (0 ≤ k) && decide (k ≤ 24) && decide (0 ≤ n)
/-- Its bits, lowest first; none, if it may not. -/
def lowL (n k : Int) : List Int := if mayB n k = true then lowI n k.toNat else []
/-- Does it go into so many? -/
def lowB (n k : Int) : Bool := mayB n k && decide (n / 2 ^ k.toNat = 0)
theorem mayB_iff (n k : Int) : mayB n k = true ↔ 0 ≤ k ∧ k ≤ 24 ∧ 0 ≤ n := by
  unfold mayB
  simp [and_assoc]
theorem lowL_len (n k : Int) : (lowL n k).length ≤ 24 := by
  unfold lowL
  by_cases h : mayB n k = true
  · rw [if_pos h, lowI_length]
    have := (mayB_iff n k).1 h
    omega
  · rw [if_neg h]
    simp
theorem lowL_bits (n k : Int) : AllBit (lowL n k) := by
  unfold lowL
  by_cases h : mayB n k = true
  · rw [if_pos h]
    exact low_bits _ _
  · rw [if_neg h]
    exact fun x hx => by cases hx
theorem bit_i64 {l : List Int} (h : AllBit l) : ∀ x ∈ l, -9223372036854775808 ≤ x ∧ x ≤ 9223372036854775807 := fun x hx => by
  have := h x hx
  omega
/-- New numbers, and a truth value. -/
def NewT (w : World) (l : List Int) (b : Bool) (e : Ending) (w' : World) : Prop := ∃ A cap, e = .returned (.tuple #[.slice A l.length cap, .bool b]) ∧ OwnI w' w.heap.size (.slice A l.length cap) l ∧ Fr (fun _ => False) w w'

set_option maxHeartbeats 4000000 in
theorem rlow (w : World) (n k : Int) (hn : n ≤ 9223372036854775807) :
    Calls Tryz.prog 87 #[.int .i64 n, .int .i64 k] w (NewT w (lowL n k) (lowB n k)) := by
  by_cases h1 : k < 0
  · have HB := Lib.hid (show mayB n k = false by unfold mayB; rw [decide_eq_false (by omega)]; rfl)
    have HL := Lib.hid (⟨by unfold lowL; rw [HB.out]; rfl, by unfold lowB; rw [HB.out]; rfl⟩ : lowL n k = [] ∧ lowB n k = false)
    clear hn
    go_enter Tryz.func87, Tryz.ntmps87
    go_wp2_with fail
    go_ret2
    rw [HL.out.1, HL.out.2]
    exact ⟨none, 0, rfl, ⟨rfl, Or.inl ⟨rfl, rfl⟩⟩, Fr.refl _ _⟩
  by_cases h2 : 24 < k
  · have HB := Lib.hid (show mayB n k = false by unfold mayB; rw [decide_eq_false (p := k ≤ 24) (by omega), Bool.and_false]; rfl)
    have HL := Lib.hid (⟨by unfold lowL; rw [HB.out]; rfl, by unfold lowB; rw [HB.out]; rfl⟩ : lowL n k = [] ∧ lowB n k = false)
    clear hn
    go_enter Tryz.func87, Tryz.ntmps87
    go_wp2_with fail
    go_ret2
    rw [HL.out.1, HL.out.2]
    exact ⟨none, 0, rfl, ⟨rfl, Or.inl ⟨rfl, rfl⟩⟩, Fr.refl _ _⟩
  by_cases h3 : n < 0
  · have HB := Lib.hid (show mayB n k = false by unfold mayB; rw [decide_eq_false (p := 0 ≤ n) (by omega), Bool.and_false])
    have HL := Lib.hid (⟨by unfold lowL; rw [HB.out]; rfl, by unfold lowB; rw [HB.out]; rfl⟩ : lowL n k = [] ∧ lowB n k = false)
    clear hn
    go_enter Tryz.func87, Tryz.ntmps87
    go_wp2_with fail
    go_ret2
    rw [HL.out.1, HL.out.2]
    exact ⟨none, 0, rfl, ⟨rfl, Or.inl ⟨rfl, rfl⟩⟩, Fr.refl _ _⟩
  obtain ⟨K, rfl⟩ : ∃ K : Nat, k = K := ⟨k.toNat, by omega⟩
  obtain ⟨N, rfl⟩ : ∃ N : Nat, n = N := ⟨n.toNat, by omega⟩
  have HB := Lib.hid ((mayB_iff (N : Int) (K : Int)).2 ⟨by omega, by omega, by omega⟩)
  have HL := Lib.hid (⟨by unfold lowL; rw [if_pos HB.out]; rfl, by unfold lowB; rw [HB.out]; rfl⟩ : lowL (N : Int) (K : Int) = lowI (N : Int) K ∧ lowB (N : Int) (K : Int) = decide ((N : Int) / 2 ^ K = 0))
  obtain ⟨lv, hlv⟩ : ∃ lv, lv = lowL (N : Int) (K : Int) := ⟨_, rfl⟩
  obtain ⟨lb, hlb⟩ : ∃ lb, lb = lowB (N : Int) (K : Int) := ⟨_, rfl⟩
  rw [← hlv, ← hlb] at HL
  rw [← hlv, ← hlb]
  have hK : K ≤ 24 := by omega
  obtain ⟨i0, hi, hz0, hz1, hz2⟩ := info_parts infoI
  have HI := Lib.hid (⟨hi, hz0, hz1, hz2⟩ : _ ∧ _ ∧ _ ∧ _)
  have H0 := Lib.hid (⟨ownI_nil w, (Fr.refl (fun _ => False) w).alloc (.cells #[] 3)⟩ : _ ∧ _)
  clear hi hz0 hz1 hz2 hlv hlb h1 h2 h3 HB
  go_enter Tryz.func87, Tryz.ntmps87
  go_wp2_with fail
  go_loopw [0, 6, 7] (fun v0 v6 v7 wr => ∃ (j z : Nat) (p : Option Addr) (c : Nat) (L : List Int), j ≤ K ∧ (z : Int) ≤ 9223372036854775807 ∧ v7 = .int .i64 j ∧ v0 = .int .i64 z ∧ v6 = .slice p j c ∧ Hid (j = L.length ∧ L = lowI (N : Int) j ∧ (z : Int) = (N : Int) / 2 ^ j ∧ wr.ownsRow w.heap.size 3 1 (.slice p j c) j (is L) ∧ Fr (fun _ => False) w wr)) (fun _ _ v _ => K - (intOf v).toNat)
  case atStart => exact ⟨0, N, _, _, [], Nat.zero_le _, hn, rfl, rfl, rfl, (show _ ∧ _ from ⟨rfl, rfl, by simp, H0.out⟩)⟩
  case round =>
    obtain ⟨j, z, p, c, L, hj, hz, rfl, rfl, rfl, HK⟩ := hrel
    clear H0 hn
    by_cases hlt : j < K
    · have hmod : ((z : Int)).tmod 2 = ((z % 2 : Nat) : Int) := rfl
      have hdiv : ((z : Int)).tdiv 2 = ((z / 2 : Nat) : Int) := rfl
      obtain ⟨u, hu⟩ : ∃ u, u = ((z % 2 : Nat) : Int) := ⟨_, rfl⟩
      rw [← hu] at hmod
      have HU := Lib.hid hu
      have HFX := Lib.hid (HK.out.2.2.2.2.alloc (.cells #[.int .i64 u] 3))
      have hjj : j ≤ 24 := by omega
      clear hu
      go_wp2_with (at_builtin; refine wpList_append_own _ rfl (.tmp 24) (.tmp 27) 66 rfl w.heap.size 3 i0 (.int .i64 0) 1 8 Tryz.underlying66 HI.out.1 HI.out.2.1 HI.out.2.2.1 HI.out.2.2.2 rfl (by omega) _ j (is L) rfl (World.ownsRow.alloc HK.out.2.2.2.1 _) ⟨wr.heap.size, 0, none⟩ 1 1 [.int .i64 u] rfl rfl (newsI _ (heap_alloc_new _ _)) (oneI _) (by unfold maxLen; omega) (by omega) HFX.out.size ?_; intro v9 w9 hown9 hg9 _)
      obtain ⟨p', c', e', hl', ho', hF'⟩ := snocI HK.out.1 (World.ownsRow.alloc HK.out.2.2.2.1 _) HFX.out hown9 hg9
      subst e'
      have H9 := Lib.hid (⟨hl', (by rw [HK.out.2.1, lowI_snoc, ← HK.out.2.2.1, HU.out]; rfl), (by
        have h1 := HK.out.2.2.1
        rw [Int.pow_succ, ← Int.ediv_ediv_of_nonneg (Int.pow_nonneg (by omega)), ← h1]
        rfl), ho', hF'⟩ : j + 1 = (L ++ [u]).length ∧ L ++ [u] = lowI (N : Int) (j + 1) ∧ ((z / 2 : Nat) : Int) = (N : Int) / 2 ^ (j + 1) ∧ w9.ownsRow w.heap.size 3 1 (.slice p' (j + 1) c') (j + 1) (is (L ++ [u])) ∧ Fr (fun _ => False) w w9)
      clear hown9 hg9 hl' ho' hF'
      go_wp2_with fail
      go_roundw
      case rel => exact ⟨j + 1, z / 2, p', c', _, by omega, by omega, by go_num, by first | rfl | go_num, rfl, (show _ ∧ _ from H9.out)⟩
      case measure => simp [intOf]; omega
    · obtain rfl : j = K := by omega
      have hzb : ((z : Int) == 0) = lb := by rw [HL.out.2, ← HK.out.2.2.1]; rfl
      go_wp2_with fail
      go_ret2
      obtain ⟨h1, h2, h3, h4, h5⟩ := HK.out
      have e : lv = L := by rw [HL.out.1, h2]
      subst e
      exact ⟨p, c, by rw [← h1]; rfl, (by unfold OwnI; rw [← h1]; exact h4), h5⟩

theorem ownI_low {w : World} {B B' : Nat} {v : Value} {l : List Int} (h : OwnI w B v l) (hB : B' ≤ B) : OwnI w B' v l := by
  obtain ⟨h1, h2⟩ := h
  refine ⟨h1, ?_⟩
  rcases h2 with h2 | ⟨g, cap, cur, hv, hg, r⟩
  · exact Or.inl h2
  · exact Or.inr ⟨g, cap, cur, hv, Nat.le_trans hB hg, r⟩
theorem rev_snoc {l : List Int} {t : Nat} {x : Int} (h : l[t]? = some x) : (l.drop t).reverse = (l.drop (t + 1)).reverse ++ [x] := by
  obtain ⟨h1, h2⟩ := List.getElem?_eq_some_iff.1 h
  rw [List.drop_eq_getElem_cons h1, h2, List.reverse_cons]
set_option maxHeartbeats 4000000 in
theorem rhigh (w : World) (n k : Int) (hn : n ≤ 9223372036854775807) :
    Calls Tryz.prog 66 #[.int .i64 n, .int .i64 k] w (NewT w (lowL n k).reverse (lowB n k)) := by
  have HLO := Lib.hid (rlow w n k hn)
  obtain ⟨l, hl⟩ : ∃ l, l = lowL n k := ⟨_, rfl⟩
  obtain ⟨lb, hlb⟩ : ∃ lb, lb = lowB n k := ⟨_, rfl⟩
  have HL := Lib.hid (⟨by rw [hl]; exact lowL_len n k, by rw [hl]; exact lowL_bits n k⟩ : l.length ≤ 24 ∧ AllBit l)
  rw [← hl, ← hlb] at HLO
  rw [← hl, ← hlb]
  obtain ⟨i0, hi, hz0, hz1, hz2⟩ := info_parts infoI
  have HI := Lib.hid (⟨hi, hz0, hz1, hz2⟩ : _ ∧ _ ∧ _ ∧ _)
  clear hi hz0 hz1 hz2 hl hlb hn
  go_enter Tryz.func66, Tryz.ntmps66
  go_wp2_with fail
  refine HLO.out.mono ?_
  rintro e w1 ⟨A, cap, rfl, ho, hF⟩
  have HR := Lib.hid (⟨OwnI.rd ho (bit_i64 HL.out.2), hF⟩ : RdI w1 w1.heap.size A l ∧ Fr (fun _ => False) w w1)
  obtain ⟨q, hq⟩ : ∃ q, q = l.length := ⟨_, rfl⟩
  have HQ := Lib.hid hq
  have hq24 : q ≤ 24 := by rw [hq]; exact HL.out.1
  rw [← hq]
  have H0 : Hid ((w1.alloc (.cells #[] 3)).ownsRow w1.heap.size 3 1 (.slice (some ⟨w1.heap.size, 0, none⟩) 0 0) 0 (is []) ∧ Fr (fun _ => False) w1 (w1.alloc (.cells #[] 3))) := Lib.hid ⟨World.ownsRow_made w1 #[] 0 (Nat.le_refl _) (Nat.zero_le _) (by simp), (Fr.refl _ w1).alloc _⟩
  clear ho hF HLO hq
  go_wp2_with fail
  go_loopw [8, 9] (fun v8 v9 wr => ∃ (t : Int) (j : Nat) (p : Option Addr) (c : Nat), -1 ≤ t ∧ (j : Int) + t + 1 = q ∧ v9 = .int .i64 t ∧ v8 = .slice p j c ∧ Hid (j = ((l.drop (t + 1).toNat).reverse).length ∧ wr.ownsRow w1.heap.size 3 1 (.slice p j c) j (is (l.drop (t + 1).toNat).reverse) ∧ Fr (fun _ => False) w1 wr)) (fun _ v _ => (intOf v + 1).toNat)
  case atStart =>
    have hd : (l.drop ((q : Int) - 1 + 1).toNat) = [] := by rw [show ((q : Int) - 1 + 1).toNat = l.length by have := HQ.out; omega, List.drop_length]
    exact ⟨(q : Int) - 1, 0, _, _, by omega, by omega, by go_num, rfl, (show _ ∧ _ from by rw [hd]; exact ⟨rfl, H0.out⟩)⟩
  case round =>
    obtain ⟨t, j, p, c, h1, h2, rfl, rfl, HK⟩ := hrel
    clear H0
    by_cases hlt : 0 ≤ t
    · obtain ⟨k, rfl⟩ : ∃ k : Nat, t = k := ⟨t.toNat, by omega⟩
      have hkl : k < l.length := by have := HQ.out; omega
      obtain ⟨blk, off, rfl, -, hc, -, -⟩ := (HR.out.1.still HK.out.2.2 (Nat.le_refl _)).at_ hkl
      have HS := Lib.hid (rev_snoc (List.getElem?_eq_getElem hkl))
      obtain ⟨x, hx⟩ : ∃ x, x = l[k] := ⟨_, rfl⟩
      rw [← hx] at hc HS
      have hK := HK.out
      rw [show ((k : Int) + 1).toNat = k + 1 by omega] at hK
      have HK2 := Lib.hid hK
      have HFX := Lib.hid (hK.2.2.alloc (.cells #[.int .i64 x] 3))
      have hj : j ≤ 24 := by omega
      clear hkl hx hK
      go_wp2_with (at_builtin; refine wpList_append_own _ rfl (.tmp 24) (.tmp 29) 66 rfl w1.heap.size 3 i0 (.int .i64 0) 1 8 Tryz.underlying66 HI.out.1 HI.out.2.1 HI.out.2.2.1 HI.out.2.2.2 rfl (by omega) _ j (is (l.drop (k + 1)).reverse) rfl (World.ownsRow.alloc HK2.out.2.1 _) ⟨wr.heap.size, 0, none⟩ 1 1 [.int .i64 x] rfl rfl (newsI _ (heap_alloc_new _ _)) (oneI _) (by unfold maxLen; omega) (by omega) HFX.out.size ?_; intro v9 w9 hown9 hg9 _)
      obtain ⟨p', c', e', hl', ho', hF'⟩ := snocI HK2.out.1 (World.ownsRow.alloc HK2.out.2.1 _) HFX.out hown9 hg9
      subst e'
      rw [← HS.out] at hl' ho'
      have H9 := Lib.hid (⟨hl', ho', hF'⟩ : _ ∧ _ ∧ _)
      clear hown9 hg9 hl' ho' hF'
      go_wp2_with fail
      go_roundw
      case rel => exact ⟨(k : Int) - 1, j + 1, p', c', by omega, by omega, by go_num, rfl, (show _ ∧ _ from by rw [show ((k : Int) - 1 + 1).toNat = k by omega]; exact H9.out)⟩
      case measure => simp [intOf]
    · have HE := HK.out
      rw [show (t + 1).toNat = 0 by omega, List.drop_zero] at HE
      have HE2 := Lib.hid HE
      have hjq : j = q := by omega
      go_wp2_with fail
      go_ret2
      obtain ⟨h3, h4, h5⟩ := HE2.out
      have hl4 : OwnI wr w.heap.size (.slice p l.reverse.length c) l.reverse := by
        rw [h3] at h4
        exact ownI_low h4 HR.out.2.size
      exact ⟨p, c, by rw [List.length_reverse]; rfl, hl4, HR.out.2.trans h5 (fun _ _ e => e)⟩
end Go.Proofs.YtcdhakfmljjaoaaGreatDoor.fl

/-
  The document's reader.
-/



namespace Go.Proofs.YtcdhakfmljjaoaaGreatDoor.fl
set_option maxRecDepth 100000
open Go.RowKit Go.Maps
set_option maxRecDepth 100000

/-- A slice of numbers whose row lies in blocks from lo on, below hi. -/
def RdT (w : World) (lo hi : Nat) (A : Option Addr) (l : List Int) : Prop :=
  l ≠ [] → ∃ blk off, A = some ⟨blk, off, none⟩ ∧ lo ≤ blk ∧ blk < hi ∧ ∀ j x, l[j]? = some x → w.cell? ⟨blk, off + j, none⟩ = some (.int .i64 x)
theorem RdT.kept {w w' : World} {lo hi : Nat} {A : Option Addr} {l : List Int} (h : RdT w lo hi A l) {S : Nat → Prop} (hF : Fr S w w') (hB : hi ≤ w.heap.size) (hS : ∀ i, lo ≤ i → i < hi → ¬ S i) : RdT w' lo hi A l := fun hne => by
  obtain ⟨blk, off, e, h1, h2, hc⟩ := h hne
  exact ⟨blk, off, e, h1, h2, fun j x hj => (World.cell?_of_block (w := w) (w' := w') (hF.block blk (by omega) (hS blk h1 h2))).trans (hc j x hj)⟩
theorem RdT.rdI {w : World} {lo hi : Nat} {A : Option Addr} {l : List Int} (h : RdT w lo hi A l) (hb : AllBit l) : RdI w hi A l := ⟨fun hne => by
  obtain ⟨blk, off, e, _, h2, hc⟩ := h hne
  exact ⟨blk, off, e, h2, hc⟩, bit_i64 hb⟩
def takeV (L : List Int) (at_ : Nat) (n : Int) : Int × Int := if n < 0 ∨ 24 < n then (0, 2) else if (L.length : Int) - at_ < n then (0, 7) else (numI ((L.drop at_).take n.toNat), 0)
def takeA (L : List Int) (at_ : Nat) (n : Int) : Nat := if n < 0 ∨ 24 < n then at_ else if (L.length : Int) - at_ < n then at_ else at_ + n.toNat
/-- L[a:b] of a reader's bits. -/
theorem cutI (w : World) (A : Option Addr) (n c a b : Nat) (hab : a ≤ b) (hb : b ≤ c) :
    (Instr.slice 66 (.slice A n c) (some (.int .i64 (a : Int))) (some (.int .i64 (b : Int))) none).run Tryz.prog w = .ok (.slice (if c = a then A else A.map (·.add a)) (b - a) (c - a)) w := by
  rw [run_slice_lh w 66 A n c Tryz.underlying66 .i64 .i64 a b (by omega) (by omega) (by omega)]
  have hs : (sizeOf (Tryz.prog.elem 66)).run Tryz.prog w = .ok 1 w := by kernel_rfl
  rw [hs]
  simp only [Result.andThen, sliced, Int.toNat_natCast, Nat.mul_one]
end Go.Proofs.YtcdhakfmljjaoaaGreatDoor.fl

/-
  The document's reader: Take.
-/
namespace Go.Proofs.YtcdhakfmljjaoaaGreatDoor.fl
set_option maxRecDepth 100000
open Go.RowKit Go.Maps
set_option maxRecDepth 100000

theorem quiet_id {f : FuncId} {args : Array Value} {w : World} {v : Value} (h : Calls Tryz.prog f args w fun e w' => e = .returned v ∧ w = w') : Calls Tryz.prog f args w fun e w' => e = .returned v ∧ w' = w := h.mono fun _ _ h => ⟨h.1, h.2.symm⟩
theorem part_rd {w : World} {lo yb : Nat} {A : Option Addr} {L : List Int} {cap : Nat} (h : RdT w lo yb A L) (hb : AllBit L) (hc : L.length ≤ cap) (a b : Nat) : RdI w yb (if cap = a then A else A.map (·.add a)) ((L.drop a).take (b - a)) := by
  refine ⟨fun hne => ?_, bit_i64 (hb.sub ((List.take_sublist _ _).trans (List.drop_sublist _ _)))⟩
  have ha : a < L.length := by
    apply Decidable.byContradiction
    intro hn
    exact hne (by rw [List.drop_of_length_le (by omega)]; simp)
  obtain ⟨blk, off, rfl, _, h2, hcell⟩ := h (by rintro rfl; simp at ha)
  rw [if_neg (by omega)]
  refine ⟨blk, off + a, by simp [add_plain], h2, fun j x hj => ?_⟩
  rw [List.getElem?_take] at hj
  split at hj
  · rw [List.getElem?_drop] at hj
    have := hcell (a + j) x hj
    rwa [← Nat.add_assoc] at this
  · cases hj

end Go.Proofs.YtcdhakfmljjaoaaGreatDoor.fl

/-
  The document's reader: Peek, Align, Bytes.
-/

namespace Go.Proofs.YtcdhakfmljjaoaaGreatDoor.fl
set_option maxRecDepth 100000
open Go.RowKit Go.Maps
set_option maxRecDepth 100000

def peekV (L : List Int) (at_ : Nat) (n : Int) : Int := if n < 0 ∨ 24 < n then 0 else numI ((L.drop at_).take n.toNat)

def alignA (at_ : Nat) : Nat := 8 * ((at_ + 7) / 8)
def atOf (w : World) (yb : Nat) : Nat := match w.cell? ⟨yb, 1, none⟩ with
  | some (.int _ a) => a.toNat
  | _ => 0
def bytesV (L : List Int) (at_ : Nat) (n : Int) : List UInt8 × Int := if n < 0 ∨ at_ % 8 ≠ 0 then ([], 2) else if (((L.length - at_) / 8 : Nat) : Int) < n then ([], 7) else (packI ((L.drop at_).take (8 * n.toNat)), 0)
def bytesA (L : List Int) (at_ : Nat) (n : Int) : Nat := if n < 0 ∨ at_ % 8 ≠ 0 then at_ else if (((L.length - at_) / 8 : Nat) : Int) < n then at_ else at_ + 8 * n.toNat

theorem RdI.up {w : World} {B B' : Nat} {A : Option Addr} {l : List Int} (h : RdI w B A l) (hB : B ≤ B') : RdI w B' A l := ⟨fun hne => by
  obtain ⟨blk, off, e, h2, hc⟩ := h.1 hne
  exact ⟨blk, off, e, by omega, hc⟩, h.2⟩
end Go.Proofs.YtcdhakfmljjaoaaGreatDoor.fl

/-
  What is asked of the program's readers and writers; the law's works over it.
-/
namespace Go.Proofs.YtcdhakfmljjaoaaGreatDoor.fl
set_option maxRecDepth 100000
open Go.RowKit Go.Maps
set_option maxRecDepth 100000

abbrev RP := World → Addr → List UInt8 → Nat → (Nat → Prop) → Prop
abbrev VP := World → Addr → List Int → (Nat → Prop) → Prop
abbrev Big (n : Int) : Prop := -9223372036854775808 ≤ n ∧ n ≤ 9223372036854775807
/-- What a writer has behind a call. -/
def putL' (L : List Int) (n k : Int) : List Int := if lowB n k = true then L ++ lowL n k else L
def codeL (L : List Int) (n k : Int) : List Int := if lowB n k = true then L ++ (lowL n k).reverse else L
def putZ (n k : Int) : Int := if lowB n k = true then 0 else 2
def padL (L : List Int) : List Int := L ++ List.replicate ((8 - L.length % 8) % 8) 0
def wbL (L : List Int) (d : List UInt8) : List Int := if L.length % 8 = 0 then L ++ bitsOf d else L
def wbZ (L : List Int) : Int := if L.length % 8 = 0 then 0 else 2
/-- A reader behind a call: it stands at p; what it has is its own, or new. -/
def RAft (R : RP) (w : World) (a : Addr) (b : List UInt8) (S : Nat → Prop) (p : Nat) (w' : World) : Prop := ∃ S', R w' a b p S' ∧ (∀ i, S' i → S i ∨ w.heap.size ≤ i) ∧ Fr S w w'
def VAft (V : VP) (w : World) (a : Addr) (S : Nat → Prop) (L : List Int) (w' : World) : Prop := ∃ S', V w' a L S' ∧ (∀ i, S' i → S i ∨ w.heap.size ≤ i) ∧ Fr S w w'
/-- The program's readers and writers, as the chapter has them. -/
structure FlowP (R : RP) (V : VP) : Prop where
  r_keep : ∀ {w w' : World} {a : Addr} {b : List UInt8} {p : Nat} {S S' : Nat → Prop}, R w a b p S → Fr S' w w' → (∀ i, S i → ¬ S' i) → R w' a b p S
  r_in : ∀ {w : World} {a : Addr} {b : List UInt8} {p : Nat} {S : Nat → Prop}, R w a b p S → (∀ i, S i → i < w.heap.size) ∧ p ≤ 8 * b.length
  new : ∀ (w : World) (A : Option Addr) (cap : Nat) (b : List UInt8), Rd w w.heap.size A b → (A = none → cap = 0) → b.length ≤ cap → b.length ≤ 140737488351232 → Calls Tryz.prog 52 #[.slice A b.length cap] w fun e w' => ∃ a S, e = .returned (.pointer (some a)) ∧ R w' a b 0 S ∧ (∀ i, S i → w.heap.size ≤ i) ∧ Fr (fun _ => False) w w'
  take : ∀ (w : World) (a : Addr) (b : List UInt8) (p : Nat) (S : Nat → Prop) (n : Int), R w a b p S → Big n → Calls Tryz.prog 75 #[.pointer (some a), .int .i64 n] w fun e w' => e = .returned (.tuple #[.int .i64 (takeV (bitsOf b) p n).1, .int .i64 (takeV (bitsOf b) p n).2]) ∧ RAft R w a b S (takeA (bitsOf b) p n) w'
  align : ∀ (w : World) (a : Addr) (b : List UInt8) (p : Nat) (S : Nat → Prop), R w a b p S → Calls Tryz.prog 131 #[.pointer (some a)] w fun e w' => e = .returned (.int .i64 0) ∧ RAft R w a b S (alignA p) w'
  bytes : ∀ (w : World) (a : Addr) (b : List UInt8) (p : Nat) (S : Nat → Prop) (n : Int), R w a b p S → Big n → Calls Tryz.prog 112 #[.pointer (some a), .int .i64 n] w fun e w' => ∃ A cap S', e = .returned (.tuple #[.slice A (bytesV (bitsOf b) p n).1.length cap, .int .i64 (bytesV (bitsOf b) p n).2]) ∧ Own w' w.heap.size (.slice A (bytesV (bitsOf b) p n).1.length cap) (bytesV (bitsOf b) p n).1 ∧ R w' a b (bytesA (bitsOf b) p n) S' ∧ (∀ i, S' i → (S i ∨ w.heap.size ≤ i) ∧ (Value.slice A (bytesV (bitsOf b) p n).1.length cap).ownBlock ≠ some i) ∧ Fr S w w'
  at_ : ∀ (w : World) (a : Addr) (b : List UInt8) (p : Nat) (S : Nat → Prop), R w a b p S → Calls Tryz.prog 55 #[.pointer (some a)] w fun e w' => e = .returned (.int .i64 (p : Int)) ∧ Calm w w'
  v_keep : ∀ {w w' : World} {a : Addr} {L : List Int} {S S' : Nat → Prop}, V w a L S → Fr S' w w' → (∀ i, S i → ¬ S' i) → V w' a L S
  v_in : ∀ {w : World} {a : Addr} {L : List Int} {S : Nat → Prop}, V w a L S → (∀ i, S i → i < w.heap.size) ∧ AllBit L
  write : ∀ (w : World), Calls Tryz.prog 79 #[] w fun e w' => ∃ a S, e = .returned (.pointer (some a)) ∧ V w' a [] S ∧ (∀ i, S i → w.heap.size ≤ i) ∧ Fr (fun _ => False) w w'
  put : ∀ (w : World) (a : Addr) (L : List Int) (S : Nat → Prop) (n k : Int), V w a L S → L.length ≤ 4000000 → Big n → Big k → Calls Tryz.prog 100 #[.pointer (some a), .int .i64 n, .int .i64 k] w fun e w' => e = .returned (.int .i64 (putZ n k)) ∧ VAft V w a S (putL' L n k) w'
  code : ∀ (w : World) (a : Addr) (L : List Int) (S : Nat → Prop) (n k : Int), V w a L S → L.length ≤ 4000000 → Big n → Big k → Calls Tryz.prog 123 #[.pointer (some a), .int .i64 n, .int .i64 k] w fun e w' => e = .returned (.int .i64 (putZ n k)) ∧ VAft V w a S (codeL L n k) w'
  all : ∀ (w : World) (a : Addr) (L : List Int) (S : Nat → Prop), V w a L S → L.length ≤ 4000000 → Calls Tryz.prog 84 #[.pointer (some a)] w fun e w' => ∃ A cap S', e = .returned (.slice A (packI L).length cap) ∧ Own w' w.heap.size (.slice A (packI L).length cap) (packI L) ∧ V w' a L S' ∧ (∀ i, S' i → (S i ∨ w.heap.size ≤ i) ∧ (Value.slice A (packI L).length cap).ownBlock ≠ some i) ∧ Fr S w w'

theorem ex_bits : bitsOf [5, 1] = [1, 0, 1, 0, 0, 0, 0, 0, 1, 0, 0, 0, 0, 0, 0, 0] := by decide
theorem ex_low : lowL 1 3 = [1, 0, 0] ∧ lowB 1 3 = true := by decide
theorem ex_pack : packI [0, 0, 1, 1, 0, 0] = [12] := by decide
end Go.Proofs.YtcdhakfmljjaoaaGreatDoor.fl
