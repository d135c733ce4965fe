/-
  A disk with its bounds; its calls on it.
-/
import Derived.Test.YtbmbibepcnpngaaWrite
import Derived.Test.YtbmbibepcnpngaaCrash
import Derived.Test.YtbmbibepcnpngaaGather
import Derived.Test.YtbmbibepcnpngaaClone
import Derived.Test.YtbmbibepcnpngaaRead
namespace Go.Proofs.Ytbmbibepcnpngaa
open Go.RowKit Go.Maps

/-- A disk of N sectors, its numbers at most B. -/
structure Good (w : World) (pb bv bt N B c : Nat) (ops lim : Int) (dk : Bool) (V : Int → Int → List UInt8) (T : Int → Int) : Prop where
  disk : ∃ nv nt, DiskAt w pb bv bt nv nt c N ops lim dk V T ∧ nv + c ≤ B ∧ nt ≤ B
  n0 : 1 ≤ N
  n1 : N ≤ 4096
  small : B ≤ 100000000
  turns : ∀ s, I64 s → 0 ≤ T s ∧ T s ≤ B
  out : ∀ s, I64 s → (s < 0 ∨ (N : Int) ≤ s) → T s = 0
  ops0 : 0 ≤ ops
  ops1 : ops ≤ B
  lim0 : -1 ≤ lim
  lim1 : lim ≤ 9223372036854775807

section
variable {w : World} {pb bv bt N B c : Nat} {ops lim : Int} {dk : Bool} {V : Int → Int → List UInt8} {T : Int → Int}

theorem Good.kept {w' : World} (h : Good w pb bv bt N B c ops lim dk V T) {S : Nat → Prop} (hF : Fr S w w') (h1 : ¬ S pb) (h2 : ¬ S bv) (h3 : ¬ S bt) : Good w' pb bv bt N B c ops lim dk V T := by
  obtain ⟨nv, nt, hd, a, b⟩ := h.disk
  exact ⟨⟨nv, nt, hd.kept hF h1 h2 h3, a, b⟩, h.n0, h.n1, h.small, h.turns, h.out, h.ops0, h.ops1, h.lim0, h.lim1⟩

theorem Good.calm {w' : World} (h : Good w pb bv bt N B c ops lim dk V T) (hF : Fr (fun _ => False) w w') : Good w' pb bv bt N B c ops lim dk V T := h.kept hF id id id

theorem Good.lt (h : Good w pb bv bt N B c ops lim dk V T) : pb < w.heap.size ∧ bv < w.heap.size ∧ bt < w.heap.size := by
  obtain ⟨nv, nt, hd, _, _⟩ := h.disk
  exact ⟨hd.blk.lt, hd.sec.lt, hd.turn.lt⟩

theorem Good.len (h : Good w pb bv bt N B c ops lim dk V T) {s t : Int} (hs : I64 s) (ht : I64 t) : (V s t).length = 256 := by
  obtain ⟨nv, nt, hd, _, _⟩ := h.disk
  exact (hd.sec.look hs ht).2

theorem Good.turnI (h : Good w pb bv bt N B c ops lim dk V T) {s : Int} (hs : I64 s) : I64 (T s) := by
  have h1 := h.turns s hs
  have h2 := h.small
  constructor <;> omega

theorem Good.big {B' : Nat} (h : Good w pb bv bt N B c ops lim dk V T) (hB : B ≤ B') (hs : B' ≤ 100000000) : Good w pb bv bt N B' c ops lim dk V T := by
  obtain ⟨nv, nt, hd, a, b⟩ := h.disk
  exact ⟨⟨nv, nt, hd, by omega, by omega⟩, h.n0, h.n1, hs, fun s hs => by have := h.turns s hs; omega, h.out, h.ops0, by have := h.ops1; omega, h.lim0, h.lim1⟩

/-- New. -/
def NewGood (w : World) (N : Nat) (e : Ending) (w' : World) : Prop :=
  ∃ pb bv bt, e = .returned (.tuple #[.pointer (some ⟨pb, 0, none⟩), .int .i64 0]) ∧ Good w' pb bv bt N 0 0 0 (-1) false (fun _ _ => noughts) (fun _ => 0) ∧ w.heap.size ≤ pb ∧ w.heap.size ≤ bv ∧ w.heap.size ≤ bt ∧ Fr (fun _ => False) w w'

theorem new_good (w : World) (N : Nat) (h1 : 1 ≤ N) (h2 : N ≤ 4096) : Calls Try.prog 9 #[.int .i64 N] w fun e w' => NewGood w N e w' := by
  refine (new_ok w N (by omega) (by omega)).mono ?_
  rintro e w' ⟨rfl, hd, hF, _⟩
  exact ⟨_, _, _, rfl, ⟨⟨0, 0, hd, by omega, by omega⟩, h1, h2, by omega, fun s hs => by omega, fun _ _ _ => rfl, by omega, by omega, by omega, by omega⟩, by omega, by omega, by omega, hF⟩

/-- A write that is taken. -/
theorem write_good (h : Good w pb bv bt N B c ops lim false V T) (hl : lim ≠ 0) (hB : B + 2 ≤ 100000000) (at_ : Int) (h0 : 0 ≤ at_) (h1 : at_ < N) (blk off cap : Nat) (l : List UInt8) (hlen : l.length = 256) (hblk : blk < w.heap.size) (hr : Reads w blk off l) (hbp : blk ≠ pb) (hbv : blk ≠ bv) (hbt : blk ≠ bt) :
    Calls Try.prog 16 #[.pointer (some ⟨pb, 0, none⟩), .int .i64 at_, .slice (some ⟨blk, off, none⟩) 256 cap] w fun e w' => e = .returned (.int .i64 0) ∧
      Good w' pb bv bt N (B + 2) (cntUp (T at_) c) (ops + 1) (lessOne lim) false (upd V at_ (T at_ + 1) l) (updT T at_ (T at_ + 1)) ∧ Fr (fun i => i = pb ∨ i = bv ∨ i = bt) w w' := by
  obtain ⟨nv, nt, hd, ha, hb⟩ := h.disk
  have hn0 := h.n0
  have hn1 := h.n1
  have hs : I64 at_ := by constructor <;> omega
  have ht := h.turns at_ hs
  have ho0 := h.ops0
  have ho1 := h.ops1
  have hcu : cntUp (T at_) c ≤ c + 1 := by unfold cntUp; split <;> omega
  refine (write_ok w hd.blk hd.sec hd.turn (by omega) hd.ne at_ h0 h1 (by omega) hl h.lim0 h.lim1 ho0 (by omega) (by omega) (by omega) ht.1 (by omega) blk off cap l hlen hblk hr hbp hbv hbt).mono ?_
  rintro e w' ⟨rfl, h3, h4, h5, h6⟩
  refine ⟨rfl, ⟨⟨_, _, ⟨h3, h4, h5, hd.ne⟩, by omega, by omega⟩, hn0, hn1, hB, fun s hs' => ?_, fun s hs' ho => ?_, by omega, by omega, ?_, ?_⟩, h6⟩
  · unfold updT
    split
    · omega
    · have := h.turns s hs'
      omega
  · unfold updT
    split
    · omega
    · exact h.out s hs' ho
  · have := h.lim0
    unfold lessOne
    split <;> omega
  · have := h.lim1
    unfold lessOne
    split <;> omega

/-- A sync that is taken. -/
def SyncGood (w : World) (pb bv N B : Nat) (ops lim : Int) (V : Int → Int → List UInt8) (T : Int → Int) (w' : World) : Prop :=
  ∃ bt' V', Good w' pb bv bt' N B 0 ops lim false V' (fun _ => 0) ∧ (∀ s, I64 s → V' s 0 = V s (T s)) ∧ w.heap.size ≤ bt' ∧ Fr (fun i => i = pb ∨ i = bv) w w'

theorem sync_good (h : Good w pb bv bt N B c ops lim false V T) (hl : lim ≠ 0) (hB : B + 2 ≤ 100000000) :
    Calls Try.prog 18 #[.pointer (some ⟨pb, 0, none⟩)] w fun e w' => e = .returned (.int .i64 0) ∧ SyncGood w pb bv N (B + 2) (ops + 1) (lessOne lim) V T w' := by
  obtain ⟨nv, nt, hd, ha, hb⟩ := h.disk
  have hn0 := h.n0
  have ho0 := h.ops0
  have ho1 := h.ops1
  refine (sync_ok w hd.blk hd.sec hd.turn (by omega) hd.ne hl h.lim0 h.lim1 ho0 (by omega) (by omega) (fun s hs => by have := h.turns s hs; omega)).mono ?_
  rintro e w' ⟨rfl, bt', V', h3, hlt, h4, h5, h6, h7⟩
  have hvlt := hd.sec.lt
  refine ⟨rfl, bt', V', ⟨⟨_, _, ⟨h3, h4, h6, by omega⟩, by omega, by omega⟩, hn0, h.n1, hB, fun s _ => by omega, fun _ _ _ => rfl, by omega, by omega, ?_, ?_⟩, h5, hlt, h7⟩
  · have := h.lim0
    unfold lessOne
    split <;> omega
  · have := h.lim1
    unfold lessOne
    split <;> omega

/-- A crash. -/
def CrashGood (w : World) (pb bv N B c : Nat) (ops : Int) (V : Int → Int → List UInt8) (T : Int → Int) (picks : List Int) (w' : World) : Prop :=
  ∃ bt' V' L, Good w' pb bv bt' N B 0 ops (-1) false V' (fun _ => 0) ∧ Rising T L ∧ L.length = c ∧ (∀ i s, L[i]? = some s → V' s 0 = V s (pickOf picks i (T s + 1))) ∧ (∀ s, s ∉ L → V' s 0 = V s 0) ∧ w.heap.size ≤ bt' ∧ Fr (fun i => i = pb ∨ i = bv) w w'

/-- What Crash's picks are: a slice of numbers that the disk does not touch. -/
def Picks (w : World) (bv : Nat) (v : Value) (picks : List Int) : Prop :=
  ∃ p cap, v = .slice p picks.length cap ∧ picks.length ≤ 9223372036854775807 ∧ (picks ≠ [] → ∃ blk off, p = some ⟨blk, off, none⟩ ∧ blk < w.heap.size ∧ blk ≠ bv ∧ ∀ j x, picks[j]? = some x → w.cell? ⟨blk, off + j, none⟩ = some (.int .i64 x))

theorem crash_good (h : Good w pb bv bt N B c ops lim dk V T) (v : Value) (picks : List Int) (hp : Picks w bv v picks) :
    Calls Try.prog 25 #[.pointer (some ⟨pb, 0, none⟩), v] w fun e w' => e = .returned (.int .i64 0) ∧ CrashGood w pb bv N B c ops V T picks w' := by
  obtain ⟨nv, nt, hd, ha, hb⟩ := h.disk
  have hn0 := h.n0
  have hsm := h.small
  have hvlt := hd.sec.lt
  have fin : ∀ w', CrashPost w pb N bv ops (nv + c) c V T picks w' → CrashGood w pb bv N B c ops V T picks w' := by
    rintro w' ⟨bt', V', L, hR, hL, h3, hlt, h4, h5, h6, h7, h8⟩
    exact ⟨bt', V', L, ⟨⟨_, _, ⟨h3, h4, h7, by omega⟩, by omega, by omega⟩, hn0, h.n1, hsm, fun s _ => by omega, fun _ _ _ => rfl, h.ops0, h.ops1, by omega, by omega⟩, hR, hL, h5, h6, hlt, h8⟩
  obtain ⟨p, cap, rfl, hpl, hpc⟩ := hp
  rcases Nat.eq_zero_or_pos c with hc | hc
  · subst hc
    refine (crash_zero w hd (by omega) picks p picks.length cap).mono ?_
    rintro e w' ⟨rfl, h9⟩
    exact ⟨rfl, fin w' h9⟩
  · by_cases hne : picks = []
    · subst hne
      refine (crash_none w hd (by omega) hc (by omega) (by omega) (fun s hs => by have := h.turns s hs; omega) p cap).mono ?_
      rintro e w' ⟨rfl, h9⟩
      exact ⟨rfl, fin w' h9⟩
    · obtain ⟨blk, off, rfl, hb1, hb2, hcell⟩ := hpc hne
      refine (crash_some w hd (by omega) hc (by omega) (by omega) (fun s hs => by have := h.turns s hs; omega) picks blk off cap hpl (fun _ => ⟨hb1, hb2⟩) hcell).mono ?_
      rintro e w' ⟨rfl, h9⟩
      exact ⟨rfl, fin w' h9⟩

/-- Clone. -/
def CloneGood (w : World) (N B c : Nat) (ops lim : Int) (dk : Bool) (V : Int → Int → List UInt8) (T : Int → Int) (e : Ending) (w' : World) : Prop :=
  ∃ qb qv qt, e = .returned (.pointer (some ⟨qb, 0, none⟩)) ∧ Good w' qb qv qt N B c ops lim dk V T ∧ w.heap.size ≤ qb ∧ w.heap.size ≤ qv ∧ w.heap.size ≤ qt ∧ Fr (fun _ => False) w w'

theorem clone_good (h : Good w pb bv bt N B c ops lim dk V T) :
    Calls Try.prog 28 #[.pointer (some ⟨pb, 0, none⟩)] w fun e w' => CloneGood w N B c ops lim dk V T e w' := by
  obtain ⟨nv, nt, hd, ha, hb⟩ := h.disk
  have hn0 := h.n0
  refine (clone_any w hd (by omega)).mono ?_
  rintro e w' ⟨qb, qv, qt, rfl, hq, h1, h2, h3, h4⟩
  exact ⟨qb, qv, qt, rfl, ⟨⟨nv, nt, hq, ha, hb⟩, hn0, h.n1, h.small, h.turns, h.out, h.ops0, h.ops1, h.lim0, h.lim1⟩, h1, h2, h3, h4⟩

theorem read_good (h : Good w pb bv bt N B c ops lim false V T) (at_ : Int) (h0 : 0 ≤ at_) (h1 : at_ < N) :
    Calls Try.prog 20 #[.pointer (some ⟨pb, 0, none⟩), .int .i64 at_] w fun e w' => NewBytes w (V at_ (T at_)) e w' := by
  obtain ⟨nv, nt, hd, ha, hb⟩ := h.disk
  have hn0 := h.n0
  have hn1 := h.n1
  exact read_ok w hd (by omega) at_ h0 h1 (by omega) (h.turnI (by constructor <;> omega))

theorem pending_good (h : Good w pb bv bt N B c ops lim dk V T) :
    Calls Try.prog 29 #[.pointer (some ⟨pb, 0, none⟩)] w fun e w' => e = .returned (.int .i64 c) ∧ w = w' := by
  obtain ⟨nv, nt, hd, ha, hb⟩ := h.disk
  have hn0 := h.n0
  exact pending_any w hd.blk hd.turn (by omega)

theorem ops_good (h : Good w pb bv bt N B c ops lim dk V T) :
    Calls Try.prog 31 #[.pointer (some ⟨pb, 0, none⟩)] w fun e w' => e = .returned (.int .i64 ops) ∧ w = w' := by
  obtain ⟨nv, nt, hd, ha, hb⟩ := h.disk
  have hn0 := h.n0
  exact ops_any w hd.blk (by omega)

theorem sectors_good (h : Good w pb bv bt N B c ops lim dk V T) :
    Calls Try.prog 32 #[.pointer (some ⟨pb, 0, none⟩)] w fun e w' => e = .returned (.int .i64 N) ∧ w = w' := by
  obtain ⟨nv, nt, hd, ha, hb⟩ := h.disk
  have hn0 := h.n0
  exact sectors_any w hd.blk (by omega)

theorem image_good (h : Good w pb bv bt N B c ops lim dk V T) :
    Calls Try.prog 33 #[.pointer (some ⟨pb, 0, none⟩)] w fun e w' => NewReads w (gath (fun k => V k (T k)) N) e w' := by
  obtain ⟨nv, nt, hd, ha, hb⟩ := h.disk
  have hsm := h.small
  exact image_any w hd h.n0 h.n1 (fun s hs => by have := h.turns s hs; omega)

theorem sure_good (h : Good w pb bv bt N B c ops lim dk V T) :
    Calls Try.prog 35 #[.pointer (some ⟨pb, 0, none⟩)] w fun e w' => NewReads w (gath (fun k => V k 0) N) e w' := by
  obtain ⟨nv, nt, hd, ha, hb⟩ := h.disk
  exact sureAll_any w hd h.n0 h.n1

end

/-- A block of bytes reads as them. -/
theorem reads_of_block {w : World} {g : Nat} {t : TypeId} {l : List UInt8} (h : w.heap[g]? = some (.cells (secC l) t (0, 0))) : Reads w g 0 l := by
  intro j b hj
  rw [Nat.zero_add, cellAt h]
  unfold secC
  rw [List.getElem?_toArray, cellsOf_get, hj]
  rfl

end Go.Proofs.Ytbmbibepcnpngaa
